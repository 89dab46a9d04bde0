/-
  The law's sizes and absent.
-/
import Derived.Test.YtdaiapopncpilaaDoorCw
namespace Go.Proofs.YtdaiapopncpilaaDoor
open Go.RowKit

/-! ### sizes -/
def bys (g : List UInt8) : List Value := g.map fun x => Value.int .u8 x.toNat
/-- How many entries there are at moment k. -/
def szN (m : Nat) (g : List UInt8) : Nat → Nat
  | 0 => 0
  | k + 1 => min (szN m g k + (g[k]?.getD 0).toNat % 3) m
def szC (m : Nat) (g : List UInt8) (i : Nat) : C := ⟨1, (szN m g (i + 1) : Nat), 10 * (i : Int), []⟩
def szL (m : Nat) (g : List UInt8) (k : Nat) : List C := (List.range k).map (szC m g)
theorem szL_succ (m : Nat) (g : List UInt8) (k : Nat) : szL m g (k + 1) = szL m g k ++ [szC m g k] := by
  unfold szL; rw [List.range_succ, List.map_append]; rfl
theorem szL_len (m : Nat) (g : List UInt8) (k : Nat) : (szL m g k).length = k := by unfold szL; simp
theorem szN_le (m : Nat) (g : List UInt8) (k : Nat) : szN m g k ≤ m := by
  cases k with
  | zero => exact Nat.zero_le _
  | succ k => unfold szN; omega
theorem szN_mono (m : Nat) (g : List UInt8) {i j : Nat} (h : i ≤ j) : szN m g i ≤ szN m g j := by
  induction h with
  | refl => exact Nat.le_refl _
  | step _ ih =>
    rename_i j _
    have h1 := szN_le m g j
    show _ ≤ min (szN m g j + (g[j]?.getD 0).toNat % 3) m
    omega

set_option maxHeartbeats 4000000 in
theorem sizes_at (va : Option Addr) (vc : Nat) (b o c : Nat) (m : Nat) (g : List UInt8) (w : World) (hc : ∀ i x, (bys g)[i]? = some x → w.cell? ⟨b, o + i, none⟩ = some x) (hm : m ≤ 8) (hg : g.length ≤ 6) :
    Calls Tryd.prog 21 #[.slice va m vc, .slice (some ⟨b, o, none⟩) g.length c] w fun e w' => ∃ a cc, e = .returned (.slice a g.length cc) ∧ (g.length = 0 → a = none ∧ cc = 0) ∧ Has w w' (RowT 23 4 (.slice a g.length cc) g.length (cC (szL m g g.length))) := by
  obtain ⟨i0, hi, hz0, hz1, hz2⟩ := info_parts infoC
  have HIN := Lib.hid hi
  have HCL := Lib.hid (show ∀ (k : Nat) (h : k < g.length), w.cell? ⟨b, o + k, none⟩ = some (.int .u8 (g[k]).toNat) from fun k hk => hc k _ (by unfold bys; rw [List.getElem?_map, List.getElem?_eq_getElem hk]; rfl))
  clear hc hi
  go_enter Tryd.func21, Tryd.ntmps21
  go_wp2_with fail
  go_loopw [5, 6, 7] (fun v n i wr => ∃ (k : Nat) (a : Option Addr) (cc : Nat), k ≤ g.length ∧ i = .int .i64 k ∧ n = .int .i64 (szN m g k : Nat) ∧ v = .slice a k cc ∧ (k = 0 → a = none ∧ cc = 0) ∧ Hid (Has w wr ((RowT 23 4 (.slice a k cc) k (cC (szL m g k))).sep .emp))) (fun _ _ i _ => g.length - (intOf i).toNat)
  case atStart => exact ⟨0, none, 0, Nat.zero_le _, rfl, rfl, rfl, fun _ => ⟨rfl, rfl⟩, Lib.hid ((Has.here w).nilRow _ _)⟩
  case round =>
    obtain ⟨k, a, cc, hk, rfl, rfl, rfl, hz, hR⟩ := hrel
    have HZ := Lib.hid hz
    clear hz
    by_cases hlt : k < g.length
    · have c1 := hR.out.toFr.cell (HCL.out k hlt)
      have HE := Lib.hid (szL_succ m g k)
      have hle := szN_le m g k
      have HN := Lib.hid (show szN m g (k + 1) = min (szN m g k + (g[k]).toNat % 3) m by show min (szN m g k + (g[k]?.getD 0).toNat % 3) m = _; rw [List.getElem?_eq_getElem hlt]; rfl)
      unfold szC at HE
      have h256 := (g[k]).toNat_lt
      generalize (g[k]).toNat = x at *
      obtain ⟨n1, hn1⟩ : ∃ n1, n1 = szN m g (k + 1) := ⟨_, rfl⟩
      rw [← hn1] at HN HE
      have HN1 := Lib.hid hn1
      clear hn1
      generalize szN m g k = n0 at *
      have h1 : n1 ≤ 8 := by rw [HN.out]; omega
      have he : min ((n0 : Int) + (x : Int) % 3) (m : Int) = (n1 : Int) := by rw [HN.out]; omega
      have HE2 := Lib.hid he
      clear he
      go_upto_region 7 with fail
      rw [HE2.out]
      go_wp2_with (at_builtin; refine wpList_app rfl _ _ 38 rfl 23 i0 (.agg #[.int .i64 0, .int .i64 0, .int .i64 0, .string (S [])]) 4 40 Tryd.underlying38 HIN.out hz0 hz1 hz2 rfl (by decide) rfl hR.out 1 1 [.int .i64 1, .int .i64 (n1 : Nat), .int .i64 (10 * (k : Int)), .string (S [])] rfl rfl (by simp [Value.oneCell']) (by decide) (by omega) (by decide) ?_; intro g' cap w3 h3)
      go_wp2_with fail
      have H3 : Hid (Has w w3 ((RowT 23 4 (.slice (some ⟨g', 0, none⟩) (k + 1) cap) (k + 1) (cC (szL m g (k + 1)))).sep .emp)) := Lib.hid (by
        rw [HE.out, cC_append]
        exact h3)
      clear h3
      go_roundw
      case rel => exact ⟨k + 1, _, _, by omega, by go_num, by rw [HN1.out], rfl, fun h => by omega, H3⟩
      case measure => simp [intOf]; omega
    · obtain rfl : k = g.length := by omega
      go_wp2_with fail
      go_ret
      exact ⟨_, _, rfl, HZ.out, hR.out.drop⟩
theorem sizes_nil (va : Option Addr) (vc : Nat) (a : Option Addr) (c : Nat) (m : Nat) (w : World) :
    Calls Tryd.prog 21 #[.slice va m vc, .slice a 0 c] w fun e w' => ∃ a cc, e = .returned (.slice a 0 cc) ∧ ((0 : Nat) = 0 → a = none ∧ cc = 0) ∧ Has w w' (RowT 23 4 (.slice a 0 cc) 0 (cC (szL m [] 0))) := by
  go_enter Tryd.func21, Tryd.ntmps21
  go_wp2_with fail
  go_loopw [5, 6, 7] (fun v n i wr => v = .slice none 0 0 ∧ n = .int .i64 0 ∧ i = .int .i64 0 ∧ wr = w) (fun _ _ _ _ => 0)
  case atStart => exact ⟨rfl, rfl, rfl, rfl⟩
  case round =>
    obtain ⟨rfl, rfl, rfl, rfl⟩ := hrel
    go_wp2_with fail
    go_ret
    exact ⟨_, _, rfl, fun _ => ⟨rfl, rfl⟩, ((Has.here wr).nilRow _ _).drop⟩
theorem lsizes_any (u v : Value) (l : List Txt) (g : List UInt8) (w : World) (hu : IsSl w u (strs l)) (hv : IsSl w v (bys g)) (hl : l.length ≤ 8) (hg : g.length ≤ 6) :
    Calls Tryd.prog 21 #[u, v] w fun e w' => ∃ a cc, e = .returned (.slice a g.length cc) ∧ (g.length = 0 → a = none ∧ cc = 0) ∧ Has w w' (RowT 23 4 (.slice a g.length cc) g.length (cC (szL l.length g g.length))) := by
  obtain ⟨va, vc, rfl⟩ := hu.len
  have h1 : (strs l).length = l.length := by simp [strs]
  rw [h1]
  rcases hv with ⟨h0, a, c, rfl⟩ | ⟨b, o, c, rfl, hc⟩
  · obtain rfl : g = [] := by simpa [bys] using h0
    exact sizes_nil va vc a c l.length w
  · have h2 : (bys g).length = g.length := by simp [bys]
    rw [h2]
    exact sizes_at va vc b o c l.length g w hc hl hg

/-! ### absent -/
/-- None of the first n texts of a log has the key q. -/
def absP (l : List Txt) (n : Int) (q : Txt) : Prop := ∀ (i : Nat) (h : i < l.length), (i : Int) < n → key l[i] ≠ some q
noncomputable def absB (l : List Txt) (n : Int) (q : Txt) : Bool := open Classical in decide (absP l n q)
theorem absB_true {l : List Txt} {n : Int} {q : Txt} : absB l n q = true ↔ absP l n q := by unfold absB; classical rw [decide_eq_true_eq]
theorem absB_no {l : List Txt} {n : Int} {q : Txt} (h : ¬ absP l n q) : absB l n q = false := by unfold absB; classical exact decide_eq_false h

set_option maxHeartbeats 4000000 in
theorem absent_at (b o c : Nat) (l : List Txt) (n : Int) (q : Txt) (w : World) (hc : ∀ i x, (strs l)[i]? = some x → w.cell? ⟨b, o + i, none⟩ = some x) (hl : l.length ≤ 8) (hs : ∀ z ∈ l, z.length ≤ 100) :
    Calls Tryd.prog 22 #[.slice (some ⟨b, o, none⟩) l.length c, .int .i64 n, .string (S q)] w fun e w' => e = .returned (.bool (absB l n q)) ∧ Fr w w' := by
  have HCL := Lib.hid (show ∀ (k : Nat) (h : k < l.length), w.cell? ⟨b, o + k, none⟩ = some (.string (S l[k])) from fun k hk => strs_at hc hk)
  have HS := Lib.hid hs
  clear hc hs
  go_enter Tryd.func22, Tryd.ntmps22
  go_wp2_with fail
  go_loopw [7] (fun i wr => ∃ (k : Nat), k ≤ l.length ∧ i = .int .i64 k ∧ Fr w wr ∧ Hid (∀ (j : Nat) (h : j < l.length), j < k → key l[j] ≠ some q)) (fun i _ => l.length - (intOf i).toNat)
  case atStart => exact ⟨0, Nat.zero_le _, rfl, Fr.refl w, Lib.hid (fun j _ h => by omega)⟩
  case round =>
    obtain ⟨k, hk, rfl, hF, hN⟩ := hrel
    by_cases hn : (k : Int) < n
    · by_cases hlt : k < l.length
      · have c1 := hF.cell (HCL.out k hlt)
        have hz := HS.out _ (List.getElem_mem hlt)
        obtain ⟨y, hy⟩ : ∃ y, y = key l[k] := ⟨_, rfl⟩
        have HK := Lib.hid (fun w' => key_any l[k] w' (by omega))
        have HY := Lib.hid (show y = some q → absB l n q = false from fun h => absB_no (fun hp => hp k hlt hn (by rw [← hy, h])))
        have HNX := Lib.hid (show y ≠ some q → ∀ (j : Nat) (h : j < l.length), j < k + 1 → key l[j] ≠ some q from fun h j hj hjk => by
          rcases Nat.lt_or_ge j k with h2 | h2
          · exact hN.out j hj h2
          · obtain rfl : j = k := by omega
            rw [← hy]; exact h)
        rw [← hy] at HK
        clear hN hy
        generalize l[k] = x at *
        go_wp2_with fail
        refine (HK.out _).mono ?_
        unfold keyV
        rintro e w2 ⟨rfl, hf2⟩
        have hF2 := hF.trans hf2
        clear hF hf2 HK c1
        cases y with
        | none =>
          have HN2 := Lib.hid (HNX.out (by simp))
          go_wp2_with fail
          go_roundw
          case rel => exact ⟨k + 1, by omega, by go_num, hF2, HN2⟩
          case measure => simp [intOf]; omega
        | some p =>
          by_cases hp : p = q
          · subst hp
            have HY2 := Lib.hid (HY.out rfl)
            have hb : (p == p) = true := beq_self_eq_true _
            go_wp2_with fail
            go_ret
            exact ⟨by rw [HY2.out]; rfl, hF2⟩
          · have hb : (p == q) = false := beq_eq_false_iff_ne.2 hp
            have HN2 := Lib.hid (HNX.out (by simpa using hp))
            go_wp2_with fail
            go_roundw
            case rel => exact ⟨k + 1, by omega, by go_num, hF2, HN2⟩
            case measure => simp [intOf]; omega
      · have HA := Lib.hid (show absB l n q = true from absB_true.2 (fun i hi _ => hN.out i hi (by omega)))
        clear hN
        go_wp2_with fail
        go_ret
        exact ⟨by rw [HA.out]; rfl, hF⟩
    · have HA := Lib.hid (show absB l n q = true from absB_true.2 (fun i hi hin => hN.out i hi (by omega)))
      clear hN
      go_wp2_with fail
      go_ret
      exact ⟨by rw [HA.out]; rfl, hF⟩
theorem absent_nil (a : Option Addr) (c : Nat) (n : Int) (q : Txt) (w : World) :
    Calls Tryd.prog 22 #[.slice a 0 c, .int .i64 n, .string (S q)] w fun e w' => e = .returned (.bool (absB [] n q)) ∧ Fr w w' := by
  have HA := Lib.hid (show absB [] n q = true from absB_true.2 (fun i hi _ => by simp at hi))
  rw [HA.out]
  go_enter Tryd.func22, Tryd.ntmps22
  go_wp2_with fail
  go_loopw [7] (fun i wr => i = .int .i64 0 ∧ wr = w) (fun _ _ => 0)
  case atStart => exact ⟨rfl, rfl⟩
  case round =>
    obtain ⟨rfl, rfl⟩ := hrel
    by_cases hn : 0 < n
    · go_wp2_with fail
      go_ret
      exact ⟨rfl, Fr.refl _⟩
    · go_wp2_with fail
      go_ret
      exact ⟨rfl, Fr.refl _⟩
theorem absent_any (v : Value) (l : List Txt) (n : Int) (q : Txt) (w : World) (hv : IsSl w v (strs l)) (hl : l.length ≤ 8) (hs : ∀ z ∈ l, z.length ≤ 100) :
    Calls Tryd.prog 22 #[v, .int .i64 n, .string (S q)] w fun e w' => e = .returned (.bool (absB l n q)) ∧ Fr w w' := by
  rcases hv with ⟨h0, a, c, rfl⟩ | ⟨b, o, c, rfl, hc⟩
  · obtain rfl : l = [] := by simpa [strs] using h0
    exact absent_nil a c n q w
  · have : (strs l).length = l.length := by simp [strs]
    rw [this]
    exact absent_at b o c l n q w hc hl hs
end Go.Proofs.YtdaiapopncpilaaDoor
