/-
  Rows of claims; the law's entries, sizes, absent.
-/
import Derived.Test.YtdaiapopncpilaaDoorCf
import Derived.Test.YtdaiapopncpilaaDoorTg
namespace Go.Proofs.YtdaiapopncpilaaDoor
open Go.RowKit

/-! ### Rows of claims -/
def cC (l : List C) : List Value := l.flatMap fun c => [.int .i64 c.k, .int .i64 c.n, .int .i64 c.t, .string (S c.s)]
theorem cC_cons (c : C) (l : List C) : cC (c :: l) = .int .i64 c.k :: .int .i64 c.n :: .int .i64 c.t :: .string (S c.s) :: cC l := by simp [cC]
theorem cC_length (l : List C) : (cC l).length = l.length * 4 := by
  induction l with
  | nil => rfl
  | cons a l ih => rw [cC_cons]; simp only [List.length_cons, ih]; omega
theorem cC_append (l m : List C) : cC (l ++ m) = cC l ++ cC m := by simp [cC]
theorem cC_one (l : List C) : ∀ v ∈ cC l, v.oneCell' = true := by
  intro v hv
  simp only [cC, List.mem_flatMap, List.mem_cons, List.not_mem_nil, or_false] at hv
  obtain ⟨_, _, rfl | rfl | rfl | rfl⟩ := hv <;> rfl
theorem cC_get (l : List C) (i : Nat) (h : i < l.length) : (cC l)[4 * i]? = some (.int .i64 l[i].k) ∧ (cC l)[4 * i + 1]? = some (.int .i64 l[i].n) ∧ (cC l)[4 * i + 2]? = some (.int .i64 l[i].t) ∧ (cC l)[4 * i + 3]? = some (.string (S l[i].s)) := by
  induction l generalizing i with
  | nil => simp at h
  | cons a l ih =>
    rw [cC_cons]
    cases i with
    | zero => simp
    | succ i =>
      have := ih i (by simpa using h)
      rw [show 4 * (i + 1) = 4 * i + 1 + 1 + 1 + 1 by omega]
      simp only [List.getElem?_cons_succ]
      simpa using this
theorem infoC : (Tryd.prog.info? 23).map (fun i => (i.zero, i.size, i.bytes)) = some (some (.agg #[.int .i64 0, .int .i64 0, .int .i64 0, .string (S [])]), 4, 40) := by kernel_rfl
/-- Element i of a row of claims lies at g. -/
def CIn (w : World) (g i : Nat) (c : C) : Prop := w.cell? ⟨g, i, none⟩ = some (.int .i64 c.k) ∧ w.cell? ⟨g, i + 1, none⟩ = some (.int .i64 c.n) ∧ w.cell? ⟨g, i + 2, none⟩ = some (.int .i64 c.t) ∧ w.cell? ⟨g, i + 3, none⟩ = some (.string (S c.s))
theorem CIn.fr {w w' : World} {g i : Nat} {c : C} (h : CIn w g i c) (hf : Fr w w') : CIn w' g i c := ⟨hf.cell h.1, hf.cell h.2.1, hf.cell h.2.2.1, hf.cell h.2.2.2⟩
theorem row_at {w : World} {base n : Nat} {v : Value} {l : List C} (h : w.ownsRow base 23 4 v n (cC l)) (hl : n = l.length) (h0 : 0 < l.length) :
    ∃ g cap, v = .slice (some ⟨g, 0, none⟩) l.length cap ∧ l.length ≤ cap ∧ ∀ (i : Nat) (h : i < l.length), CIn w g (i * 4) l[i] := by
  subst hl
  rcases h.2 with ⟨rfl, h1⟩ | ⟨g, cap, cur, rfl, hB, hg, hc, _, hs, ht⟩
  · omega
  · refine ⟨g, cap, rfl, hc, fun i hi => ?_⟩
    have hget : ∀ j u, j < l.length * 4 → (cC l)[j]? = some u → w.cell? ⟨g, j, none⟩ = some u := fun j u hj hu => by
      rw [Lib.cell_of_heap hg]
      rw [← ht, List.getElem?_take, if_pos hj] at hu
      simpa using hu
    have hc := cC_get l i hi
    exact ⟨hget _ _ (by omega) (by rw [Nat.mul_comm]; exact hc.1), hget _ _ (by omega) (by rw [Nat.mul_comm]; exact hc.2.1), hget _ _ (by omega) (by rw [Nat.mul_comm]; exact hc.2.2.1), hget _ _ (by omega) (by rw [Nat.mul_comm]; exact hc.2.2.2)⟩

/-! ### Slices of strings that are arguments -/
def strs (l : List Txt) : List Value := l.map fun z => Value.string (S z)
theorem strs_at {w : World} {b o : Nat} {l : List Txt} (h : ∀ i x, (strs l)[i]? = some x → w.cell? ⟨b, o + i, none⟩ = some x) {k : Nat} (hk : k < l.length) : w.cell? ⟨b, o + k, none⟩ = some (.string (S l[k])) :=
  h k _ (by unfold strs; rw [List.getElem?_map, List.getElem?_eq_getElem hk]; rfl)

/-! ### entries -/
def entC (i : Nat) (s : Txt) : C := ⟨0, i, 0, s⟩
/-- The first k entries, as claims. -/
def entL (l : List Txt) (k : Nat) : List C := (List.range k).map fun i => entC i (l[i]?.getD [])
theorem entL_succ (l : List Txt) (k : Nat) (h : k < l.length) : entL l (k + 1) = entL l k ++ [entC k l[k]] := by
  unfold entL
  rw [List.range_succ, List.map_append, List.map_singleton, List.getElem?_eq_getElem h]; rfl
theorem entL_len (l : List Txt) (k : Nat) : (entL l k).length = k := by unfold entL; simp
theorem entL_get (l : List Txt) (k i : Nat) (h : i < k) (hl : i < l.length) : (entL l k)[i]? = some (entC i l[i]) := by
  unfold entL
  rw [List.getElem?_map, List.getElem?_range h, Option.map_some, List.getElem?_eq_getElem hl]; rfl
/-- All entries are valid claims. -/
def entOk (l : List Txt) : Prop := ∀ i (h : i < l.length), okB (entC i l[i]) = true
/-- What entries returns. -/
def EntP (l : List Txt) (w : World) (e : Ending) (w' : World) : Prop :=
  (entOk l ∧ ∃ a c, e = .returned (.tuple #[.slice a l.length c, .bool true]) ∧ Has w w' (RowT 23 4 (.slice a l.length c) l.length (cC (entL l l.length)))) ∨
  (¬ entOk l ∧ e = .returned (.tuple #[.slice none 0 0, .bool false]) ∧ Fr w w')
theorem entC_fits {i : Nat} {s : Txt} (hi : i ≤ 100) (hs : s.length ≤ 100) : (entC i s).fits := by
  refine ⟨⟨show -9223372036854775808 ≤ (0 : Int) by decide, show (0 : Int) ≤ 9223372036854775807 by decide⟩, ⟨show -9223372036854775808 ≤ (i : Int) by omega, show (i : Int) ≤ 9223372036854775807 by omega⟩, ⟨show -9223372036854775808 ≤ (0 : Int) by decide, show (0 : Int) ≤ 9223372036854775807 by decide⟩, show s.length ≤ 9223372036854775807 by omega⟩

set_option maxHeartbeats 4000000 in
theorem entries_at (b o c : Nat) (l : List Txt) (w : World) (hc : ∀ i x, (strs l)[i]? = some x → w.cell? ⟨b, o + i, none⟩ = some x) (hl : l.length ≤ 8) (hs : ∀ z ∈ l, z.length ≤ 100) :
    Calls Tryd.prog 20 #[.slice (some ⟨b, o, none⟩) l.length c] w (EntP l w) := by
  obtain ⟨i0, hi, hz0, hz1, hz2⟩ := info_parts infoC
  have HIN := Lib.hid hi
  have HCL := Lib.hid (show ∀ (k : Nat) (h : k < l.length), w.cell? ⟨b, o + k, none⟩ = some (.string (S l[k])) from fun k hk => strs_at hc hk)
  have HS := Lib.hid hs
  clear hc hs hi
  go_enter Tryd.func20, Tryd.ntmps20
  go_wp2_with fail
  go_loopw [4, 5] (fun v i wr => ∃ (k : Nat) (a : Option Addr) (cc : Nat), k ≤ l.length ∧ i = .int .i64 k ∧ v = .slice a k cc ∧ Hid (Has w wr ((RowT 23 4 (.slice a k cc) k (cC (entL l k))).sep .emp)) ∧ Hid (∀ j (h : j < l.length), j < k → okB (entC j l[j]) = true)) (fun _ i _ => l.length - (intOf i).toNat)
  case atStart => exact ⟨0, none, 0, Nat.zero_le _, rfl, rfl, Lib.hid ((Has.here w).nilRow _ _), Lib.hid (fun j _ h => by omega)⟩
  case round =>
    obtain ⟨k, a, cc, hk, rfl, rfl, hR, hO⟩ := hrel
    by_cases hlt : k < l.length
    · have c1 := hR.out.toFr.cell (HCL.out k hlt)
      have hz := HS.out _ (List.getElem_mem hlt)
      have HE := Lib.hid (entL_succ l k hlt)
      have HF := Lib.hid (entC_fits (i := k) (by omega) hz)
      have HN := Lib.hid (show okB (entC k l[k]) = okB (entC k l[k]) from rfl)
      have HO := Lib.hid (show okB (entC k l[k]) = true → ∀ j (h : j < l.length), j < k + 1 → okB (entC j l[j]) = true from fun h1 j hj hjk => by
        rcases Nat.lt_or_ge j k with h2 | h2
        · exact hO.out j hj h2
        · obtain rfl : j = k := by omega
          exact h1)
      have HX := Lib.hid (show okB (entC k l[k]) = false → ¬ entOk l from fun h1 h2 => by rw [h2 k hlt] at h1; cases h1)
      have HRt := Lib.hid (fun w' => right_any (entC k l[k]) w' HF.out)
      unfold entC C.v at HRt
      clear hO HN HF
      unfold entC at HE HO HX
      obtain ⟨x, hx⟩ : ∃ x, x = l[k] := ⟨_, rfl⟩
      rw [← hx] at c1 hz HE HO HX HRt
      clear hx
      simp only at HRt HE HX HO
      generalize okB ⟨0, (k : Int), 0, x⟩ = ok at *
      go_wp2_with fail
      have hA := CAt.new wr ⟨0, (k : Int), 0, x⟩
      have hf1 := Fr.alloc wr (.cells #[.int .i64 0, .int .i64 (k : Int), .int .i64 0, .string (S x)] 23)
      simp only at hA
      have H1 := Lib.hid (hR.out.fr hf1)
      generalize wr.alloc (.cells #[.int .i64 0, .int .i64 (k : Int), .int .i64 0, .string (S x)] 23) = w1 at *
      generalize wr.heap.size = D at *
      refine (HRt.out _).mono ?_
      rintro e w2 ⟨rfl, hf2⟩
      obtain ⟨a0, a1, a2, a3⟩ := hA.fr hf2
      have H2 := Lib.hid (H1.out.fr hf2)
      simp only at a0 a1 a2 a3
      clear H1 hf1 hf2 hA HRt hR c1
      cases ok with
      | false =>
        have HX1 := Lib.hid (HX.out (by first | trivial | rfl))
        go_wp2_with fail
        go_ret2
        exact .inr ⟨HX1.out, rfl, H2.out.toFr⟩
      | true =>
        have HO1 := Lib.hid (HO.out (by first | trivial | rfl))
        clear HX HO
        go_wp2_with (at_builtin; refine wpList_app rfl _ _ 38 rfl 23 i0 (.agg #[.int .i64 0, .int .i64 0, .int .i64 0, .string (S [])]) 4 40 Tryd.underlying38 HIN.out hz0 hz1 hz2 rfl (by decide) rfl H2.out 1 1 [.int .i64 0, .int .i64 (k : Int), .int .i64 0, .string (S x)] rfl rfl (by simp [Value.oneCell']) (by decide) (by omega) (by decide) ?_; intro g cap w3 h3)
        go_wp2_with fail
        have H3 : Hid (Has w w3 ((RowT 23 4 (.slice (some ⟨g, 0, none⟩) (k + 1) cap) (k + 1) (cC (entL l (k + 1)))).sep .emp)) := Lib.hid (by
          rw [HE.out, cC_append]
          exact h3)
        clear h3
        go_roundw
        case rel => exact ⟨k + 1, _, _, by omega, by go_num, rfl, H3, HO1⟩
        case measure => simp [intOf]; omega
    · obtain rfl : k = l.length := by omega
      go_wp2_with fail
      go_ret2
      exact .inl ⟨fun i h => hO.out i h h, _, _, rfl, hR.out.drop⟩
theorem entries_nil (a : Option Addr) (c : Nat) (w : World) :
    Calls Tryd.prog 20 #[.slice a 0 c] w (EntP [] w) := by
  go_enter Tryd.func20, Tryd.ntmps20
  go_wp2_with fail
  go_loopw [4, 5] (fun v i wr => v = .slice none 0 0 ∧ i = .int .i64 0 ∧ wr = w) (fun _ _ _ => 0)
  case atStart => exact ⟨rfl, rfl, rfl⟩
  case round =>
    obtain ⟨rfl, rfl, rfl⟩ := hrel
    go_wp2_with fail
    go_ret2
    exact .inl ⟨fun i h => by simp at h, _, _, rfl, ((Has.here wr).nilRow _ _).drop⟩
theorem entries_any (v : Value) (l : List Txt) (w : World) (h : IsSl w v (strs l)) (hl : l.length ≤ 8) (hs : ∀ z ∈ l, z.length ≤ 100) :
    Calls Tryd.prog 20 #[v] w (EntP l w) := by
  rcases h with ⟨h0, a, c, rfl⟩ | ⟨b, o, c, rfl, hc⟩
  · obtain rfl : l = [] := by simpa [strs] using h0
    exact entries_nil a c w
  · have : (strs l).length = l.length := by simp [strs]
    rw [this]
    exact entries_at b o c l w hc hl hs
end Go.Proofs.YtdaiapopncpilaaDoor
