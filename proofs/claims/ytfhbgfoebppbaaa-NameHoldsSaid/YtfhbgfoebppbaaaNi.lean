/-
  Holds as cells, slices.Clone and slices.IndexFunc over them, Drop.
-/
import Derived.Test.YtfhbgfoebppbaaaNh
namespace Go.Proofs.Ytfhbgfoebppbaaa
open Go.RowKit

def hdC (l : List Hd) : List Value := l.flatMap fun e => [.string (S e.1), .int .i64 e.2]
theorem hdC_cons (e : Hd) (l : List Hd) : hdC (e :: l) = .string (S e.1) :: .int .i64 e.2 :: hdC l := by simp [hdC]
theorem hdC_length (l : List Hd) : (hdC l).length = l.length * 2 := by
  induction l with
  | nil => rfl
  | cons a l ih => rw [hdC_cons]; simp only [List.length_cons, ih]; omega
theorem hdC_append (l m : List Hd) : hdC (l ++ m) = hdC l ++ hdC m := by simp [hdC]
theorem hdC_get (l : List Hd) (i : Nat) (h : i < l.length) : (hdC l)[2 * i]? = some (.string (S l[i].1)) ∧ (hdC l)[2 * i + 1]? = some (.int .i64 l[i].2) := by
  induction l generalizing i with
  | nil => simp at h
  | cons a l ih =>
    rw [hdC_cons]
    cases i with
    | zero => simp
    | succ i =>
      have := ih i (by simpa using h)
      rw [show 2 * (i + 1) = 2 * i + 1 + 1 by omega, List.getElem?_cons_succ, List.getElem?_cons_succ, List.getElem?_cons_succ, List.getElem?_cons_succ]
      simpa using this
theorem hdC_one (l : List Hd) : ∀ v ∈ hdC l, v.oneCell' = true := by
  intro v hv
  simp only [hdC, List.mem_flatMap, List.mem_cons, List.not_mem_nil, or_false] at hv
  obtain ⟨_, _, rfl | rfl⟩ := hv <;> rfl
theorem infoHd : (Try.prog.info? 43).map (fun i => (i.zero, i.size, i.bytes)) = some (some (.agg #[.string (S []), .int .i64 0]), 2, 24) := by kernel_rfl
/-- An own row of holds, element by element. -/
theorem row_at {w : World} {base n : Nat} {v : Value} {l : List Hd} (h : w.ownsRow base 43 2 v n (hdC l)) (hl : n = l.length) (h0 : 0 < l.length) :
    ∃ g cap cur, v = .slice (some ⟨g, 0, none⟩) l.length cap ∧ base ≤ g ∧ w.heap[g]? = some (.cells cur 43 (0, 0)) ∧ HAt w g 0 l := by
  subst hl
  rcases h.2 with ⟨rfl, h1⟩ | ⟨g, cap, cur, rfl, hB, hg, hc, _, hs, ht⟩
  · omega
  · refine ⟨g, cap, cur, rfl, hB, hg, fun i hi => ?_⟩
    have hget : ∀ j u, j < l.length * 2 → (hdC l)[j]? = some u → w.cell? ⟨g, j, none⟩ = some u := fun j u hj hu => by
      rw [Lib.cell_of_heap hg]
      rw [← ht, List.getElem?_take, if_pos hj] at hu
      simpa using hu
    have hc := hdC_get l i hi
    rw [Nat.zero_add]
    exact ⟨hget _ _ (by omega) (by rw [Nat.mul_comm]; exact hc.1), hget _ _ (by omega) (by rw [Nat.mul_comm]; exact hc.2)⟩
theorem Hl.own {B n : Nat} {w : World} {v : Value} {l : List Hd} (h : w.ownsRow B 43 2 v n (hdC l)) (hn : n = l.length) : Hl w v l := by
  rcases Nat.eq_zero_or_pos l.length with h0 | h0
  · have hl : l = [] := List.length_eq_zero_iff.1 h0
    obtain ⟨a, c, rfl⟩ := row_form h
    subst hl
    exact .inl ⟨rfl, a, c, by rw [hn]; rfl⟩
  · obtain ⟨g, cap, _, rfl, _, _, hc⟩ := row_at h hn h0
    exact .inr ⟨g, 0, cap, rfl, hc⟩
theorem HAt.cells {w : World} {b o : Nat} {l : List Hd} (h : HAt w b o l) : ∀ j u, (hdC l)[j]? = some u → w.cell? ((⟨b, o, none⟩ : Addr).add j) = some u := by
  intro j u hu
  have hj : j < l.length * 2 := by have := (List.getElem?_eq_some_iff.1 hu).1; rwa [hdC_length] at this
  have hi : j / 2 < l.length := by omega
  have h1 := h (j / 2) hi
  have h2 := hdC_get l (j / 2) hi
  rw [Addr.add_mid]
  rcases Nat.mod_two_eq_zero_or_one j with hm | hm
  · have e : j = 2 * (j / 2) := by omega
    rw [e] at hu
    rw [h2.1] at hu
    rw [← hu, ← h1.1]
    congr 2
    omega
  · have e : j = 2 * (j / 2) + 1 := by omega
    rw [e] at hu
    rw [h2.2] at hu
    rw [← hu, ← h1.2]
    congr 2
    omega

def CloneP (l : List Hd) (w : World) (e : Ending) (w' : World) : Prop := ∃ v', e = .returned v' ∧ w'.ownsRow w.heap.size 43 2 v' l.length (hdC l) ∧ Fr w w'
set_option maxHeartbeats 1000000 in
theorem clone_some (ad : Addr) (c : Nat) (l : List Hd) (w : World) (hc : ∀ j u, (hdC l)[j]? = some u → w.cell? (ad.add j) = some u) (hn : l.length ≤ 1000000) :
    Calls Try.prog 27 #[.slice (some ad) l.length c] w (CloneP l w) := by
  obtain ⟨i0, hi, hz0, hz1, hz2⟩ := info_parts infoHd
  have HIN := Lib.hid hi
  have hq := fun w => Lib.run_eql_slice_nil (P := Try.prog) w 23 _ (some ad) l.length c 0 0 Try.underlying23
  have hnb : (0 + l.length) * 24 ≤ 140737488355328 := by omega
  have HC : Hid (∀ j u, (hdC l)[j]? = some u → (w.alloc (.cells #[] 43)).cell? (ad.add j) = some u) := Lib.hid (fun j u hu => (Fr.alloc w (.cells #[] 43)).cell (hc j u hu))
  have HO : Hid ((w.alloc (.cells #[] 43)).ownsRow w.heap.size 43 2 (.slice (some ⟨w.heap.size, 0, none⟩) 0 0) 0 []) := Lib.hid (World.ownsRow_lit (base := w.heap.size) (e := 43) (size := 2) w #[] 0 (Nat.le_refl _) (Nat.zero_le _) rfl)
  clear hi hc
  go_enter Try.func27, Try.ntmps27
  go_wp2_with ((at_builtin; refine wpList_append_own _ rfl (.tmp 5) (.tmp 6) 23 rfl w.heap.size 43 i0 (.agg #[.string (S []), .int .i64 0]) 2 24 Try.underlying23 HIN.out hz0 hz1 hz2 rfl (by decide) _ _ _ rfl HO.out ad l.length c (hdC l) rfl (hdC_length l) HC.out (hdC_one l) (by unfold maxLen; omega) hnb (by simp) ?_; intro v1 w1 hown1 hgrow1 _))
  have hg : w1.ownsRow w.heap.size 43 2 v1 l.length (hdC l) := by
    have := hown1
    rw [Nat.zero_add, List.nil_append] at this
    exact this
  have hf : Fr w w1 := ⟨hgrow1.os, hgrow1.tape, hgrow1.output, by have := hgrow1.size; simp at this; omega, fun k hk _ => by
    rw [hgrow1.block k (by simp; omega) (fun e => Nat.ne_of_lt hk (Option.some.inj e))]
    exact (Fr.alloc w _).block hk⟩
  go_ret
  exact ⟨v1, rfl, hg, hf⟩
set_option maxHeartbeats 1000000 in
theorem clone_nil (c : Nat) (w : World) : Calls Try.prog 27 #[.slice none 0 c] w (CloneP [] w) := by
  have hq := fun w => Lib.run_eql_slice_nil (P := Try.prog) w 23 _ none 0 c 0 0 Try.underlying23
  go_enter Try.func27, Try.ntmps27
  go_wp2_with fail
  go_ret
  exact ⟨_, rfl, World.ownsRow_nil _ _ _ _, Fr.refl _⟩
theorem clone_any (v : Value) (l : List Hd) (w : World) (h : Hl w v l) (hn : l.length ≤ 1000000) : Calls Try.prog 27 #[v] w (CloneP l w) := by
  rcases h with ⟨rfl, a, c, rfl⟩ | ⟨b, o, c, rfl, h⟩
  · cases a with
    | none => exact clone_nil c w
    | some ad => exact clone_some ad c [] w (fun j u hu => by simp [hdC] at hu) (by decide)
  · exact clone_some ⟨b, o, none⟩ c l w h.cells hn

/-! ### IndexFunc, with the closure that Drop makes -/
set_option maxRecDepth 100000 in
theorem drop1_any (x s : Txt) (u : Int) (B : Nat) (w : World) (hB : w.cell? ⟨B, 0, none⟩ = some (.string (S s))) :
    Calls Try.prog 29 #[.agg #[.string (S x), .int .i64 u], .pointer (some ⟨B, 0, none⟩)] w fun e w' => e = .returned (.bool (x == s)) ∧ Fr w w' := by
  have hf := Fr.alloc w (.cells #[.string (S x), .int .i64 u] 43)
  have c0 := hf.cell hB
  clear hB
  go_enter Try.func29, Try.ntmps29
  go_wp2_with fail
  go_ret
  exact ⟨rfl, hf⟩
def IxP (l : List Hd) (s : Txt) (w : World) (e : Ending) (w' : World) : Prop :=
  Fr w w' ∧ ((e = .returned (.int .i64 (-1)) ∧ ∀ x ∈ l, x.1 ≠ s) ∨ ∃ (k : Nat) (hk : k < l.length), e = .returned (.int .i64 k) ∧ l[k].1 = s ∧ ∀ (j : Nat) (hj : j < k), (l[j]'(by omega)).1 ≠ s)
set_option maxHeartbeats 1000000 in
set_option maxRecDepth 100000 in
theorem index_at (b o cp : Nat) (l : List Hd) (s : Txt) (B : Nat) (w : World) (hc : HAt w b o l) (hB : w.cell? ⟨B, 0, none⟩ = some (.string (S s))) (hn : l.length ≤ 1000000) :
    Calls Try.prog 28 #[.slice (some ⟨b, o, none⟩) l.length cp, .func (.func 29) #[] #[.pointer (some ⟨B, 0, none⟩)]] w (IxP l s w) := by
  have HC := Lib.hid hc
  have HB := Lib.hid hB
  clear hc hB
  go_enter Try.func28, Try.ntmps28
  go_wp2_with fail
  go_loopw [8] (fun vi wr => ∃ i : Nat, i ≤ l.length ∧ vi = .int .i64 i ∧ Fr w wr ∧ Hid (∀ (m : Nat) (hm : m < l.length), m < i → l[m].1 ≠ s)) (fun vi _ => l.length - (intOf vi).toNat)
  case atStart => exact ⟨0, Nat.zero_le _, rfl, Fr.refl w, Lib.hid (fun m hm h => by omega)⟩
  case round =>
    obtain ⟨i, hi, rfl, hfr, hI⟩ := hrel
    by_cases hlt : i < l.length
    · obtain ⟨c0, c1⟩ := HC.out i hlt
      have c0 := hfr.cell c0
      have c1 := hfr.cell c1
      have HCm := Lib.hid (fun w' (h : Fr wr w') => drop1_any l[i].1 s l[i].2 B w' ((hfr.trans h).cell HB.out))
      have HA := Lib.hid (fun h : (l[i].1 == s) = true => show ∃ (k : Nat) (hk : k < l.length), Ending.returned (.int .i64 i) = .returned (.int .i64 k) ∧ l[k].1 = s ∧ ∀ (j : Nat) (hj : j < k), (l[j]'(by omega)).1 ≠ s from ⟨i, hlt, rfl, by simpa using h, fun j hj => hI.out j (by omega) hj⟩)
      have HN := Lib.hid (fun h : (l[i].1 == s) = false => show ∀ (m : Nat) (hm : m < l.length), m < i + 1 → l[m].1 ≠ s from fun m hm hmi => by
        rcases Nat.lt_or_ge m i with h1 | h1
        · exact hI.out m hm h1
        · obtain rfl : m = i := by omega
          simpa using h)
      generalize (l[i].1 == s) = x at *
      generalize l[i] = y at *
      obtain ⟨y1, y2⟩ := y
      simp only at c0 c1 HCm
      cases x with
      | true =>
        go_wp2_with (go_at_call 29; refine (HCm.out _ (by exact Fr.refl _)).mono ?_; rintro e w2 ⟨rfl, hf2⟩)
        go_ret
        exact ⟨hfr.trans hf2, .inr (HA.out (by first | trivial | rfl))⟩
      | false =>
        have HN2 := Lib.hid (HN.out (by first | trivial | rfl))
        go_wp2_with (go_at_call 29; refine (HCm.out _ (by exact Fr.refl _)).mono ?_; rintro e w2 ⟨rfl, hf2⟩)
        have hf3 := hfr.trans hf2
        go_roundw
        case rel => exact ⟨i + 1, by omega, by go_num, hf3, HN2⟩
        case measure => simp [intOf]; omega
    · have HN := Lib.hid (show ∀ x ∈ l, x.1 ≠ s from fun x hx => by
        obtain ⟨m, hm, rfl⟩ := List.getElem_of_mem hx
        exact hI.out m hm (by omega))
      go_wp2_with fail
      go_ret
      exact ⟨hfr, .inl ⟨rfl, HN.out⟩⟩
set_option maxRecDepth 100000 in
theorem index_nil (a : Option Addr) (cp : Nat) (s : Txt) (B : Nat) (w : World) :
    Calls Try.prog 28 #[.slice a 0 cp, .func (.func 29) #[] #[.pointer (some ⟨B, 0, none⟩)]] w (IxP [] s w) := by
  go_enter Try.func28, Try.ntmps28
  go_wp2_with fail
  go_loopw [8] (fun vi wr => vi = .int .i64 0 ∧ wr = w) (fun _ _ => 0)
  case atStart => exact ⟨rfl, rfl⟩
  case round =>
    obtain ⟨rfl, rfl⟩ := hrel
    go_wp2_with fail
    go_ret
    exact ⟨Fr.refl _, .inl ⟨rfl, by simp⟩⟩
theorem index_any (v : Value) (l : List Hd) (s : Txt) (B : Nat) (w : World) (h : Hl w v l) (hB : w.cell? ⟨B, 0, none⟩ = some (.string (S s))) (hn : l.length ≤ 1000000) :
    Calls Try.prog 28 #[v, .func (.func 29) #[] #[.pointer (some ⟨B, 0, none⟩)]] w (IxP l s w) := by
  rcases h with ⟨rfl, a, cp, rfl⟩ | ⟨b, o, cp, rfl, hc⟩
  · exact index_nil a cp s B w
  · exact index_at b o cp l s B w hc hB hn
theorem first_or (l : List Hd) (s : Txt) : (∀ x ∈ l, x.1 ≠ s) ∨ ∃ (k : Nat) (hk : k < l.length), l[k].1 = s ∧ ∀ (j : Nat) (hj : j < k), (l[j]'(by omega)).1 ≠ s := by
  induction l with
  | nil => exact .inl (by simp)
  | cons a l ih =>
    by_cases h : a.1 = s
    · exact .inr ⟨0, by simp, by simpa using h, fun j hj => by omega⟩
    · rcases ih with h1 | ⟨k, hk, h1, h2⟩
      · refine .inl fun x hx => ?_
        rcases List.mem_cons.1 hx with rfl | hx
        · exact h
        · exact h1 x hx
      · refine .inr ⟨k + 1, by simpa using hk, by simpa using h1, fun j hj => ?_⟩
        cases j with
        | zero => simpa using h
        | succ j => simpa using h2 j (by omega)
theorem index_none (v : Value) (l : List Hd) (s : Txt) (B : Nat) (w : World) (h : Hl w v l) (hB : w.cell? ⟨B, 0, none⟩ = some (.string (S s))) (hn : l.length ≤ 1000000) (hx : ∀ x ∈ l, x.1 ≠ s) :
    Calls Try.prog 28 #[v, .func (.func 29) #[] #[.pointer (some ⟨B, 0, none⟩)]] w fun e w' => e = .returned (.int .i64 (-1)) ∧ Fr w w' :=
  (index_any v l s B w h hB hn).mono fun e w' ⟨hf, hi⟩ => by
    rcases hi with ⟨he, _⟩ | ⟨k, hk, _, h1, _⟩
    · exact ⟨he, hf⟩
    · exact absurd h1 (hx _ (List.getElem_mem hk))
theorem index_some (v : Value) (l : List Hd) (s : Txt) (B : Nat) (w : World) (h : Hl w v l) (hB : w.cell? ⟨B, 0, none⟩ = some (.string (S s))) (hn : l.length ≤ 1000000) (k : Nat) (hk : k < l.length) (he : l[k].1 = s) (hb : ∀ (j : Nat) (hj : j < k), (l[j]'(by omega)).1 ≠ s) :
    Calls Try.prog 28 #[v, .func (.func 29) #[] #[.pointer (some ⟨B, 0, none⟩)]] w fun e w' => e = .returned (.int .i64 (k : Int)) ∧ Fr w w' :=
  (index_any v l s B w h hB hn).mono fun e w' ⟨hf, hi⟩ => by
    rcases hi with ⟨_, h1⟩ | ⟨j, hj, h0, h1, h2⟩
    · exact absurd he (h1 _ (List.getElem_mem hk))
    · rcases Nat.lt_trichotomy j k with h' | h' | h'
      · exact absurd h1 (hb j h')
      · subst h'; exact ⟨h0, hf⟩
      · exact absurd he (h2 k h')
theorem Fr.growO {w x y : World} {row : Option Nat} (h : Fr w x) (hg : x.grownBy y row) (hr : ∀ k, row = some k → w.heap.size ≤ k) : Fr w y :=
  World.grownBy.andThen h hg (fun j hj => .inl (hr j hj))
theorem Fr.set {w x : World} (h : Fr w x) {b : Nat} (hb : w.heap.size ≤ b) (i : Nat) (v : Value) : Fr w (x.setCell ⟨b, i, none⟩ v) :=
  ⟨h.os, h.tape, h.output, by simpa using h.size, fun k hk _ => by
    rw [heap_setCell_other x ⟨b, i, none⟩ k v (by simp; omega), h.block hk]⟩
/-- One hold of a row becomes longer. -/
theorem HAt.set {w : World} {g : Nat} {l : List Hd} {cur : Array Value} {t : TypeId} (_hg : w.heap[g]? = some (.cells cur t (0, 0))) (h : HAt w g 0 l) (k : Nat) (hk : k < l.length) (m : Int) :
    HAt (w.setCell ⟨g, k * 2 + 1, none⟩ (.int .i64 m)) g 0 (l.set k (l[k].1, m)) := by
  have c0 := h k hk
  rw [Nat.zero_add] at c0
  intro i hi
  have hi' : i < l.length := by simpa using hi
  have ci := h i hi'
  rw [Nat.zero_add] at ci ⊢
  by_cases e : i = k
  · subst e
    simp only [List.getElem_set_self]
    refine ⟨?_, World.cell?_setCell_same w _ _ c0.2⟩
    exact (World.cell?_setCell_other w _ _ _ (by simp)).trans c0.1
  · rw [List.getElem_set_ne (Ne.symm e)]
    refine ⟨?_, ?_⟩
    · exact (World.cell?_setCell_other w _ _ _ (by intro hh; have h2 : k * 2 + 1 = _ := congrArg Addr.off hh; simp only at h2; omega)).trans ci.1
    · exact (World.cell?_setCell_other w _ _ _ (by intro hh; have h2 : k * 2 + 1 = _ := congrArg Addr.off hh; simp only at h2; omega)).trans ci.2
end Go.Proofs.Ytfhbgfoebppbaaa
