/-
  slices.BinarySearchFunc, IndexFunc, ContainsFunc over claims.
-/
import Derived.Test.YthppefkamklakaaDoorVb

namespace Go.Proofs.YthppefkamklakaaDoor
open Go.RowKit

theorem cmp_neg {a b : Int} : (cmpI a b < 0) ↔ a < b := by
  unfold cmpI
  split
  · simp; assumption
  · split <;> simp <;> omega
def BsP (l : List C) (t : Int) (w : World) (e : Ending) (w' : World) : Prop := ∃ b, e = .returned (.tuple #[.int .i64 (plc t l), .bool b]) ∧ Fr w w'
set_option maxHeartbeats 1000000 in
set_option maxRecDepth 100000 in
theorem bsearch_at (b o c : Nat) (l : List C) (t : Int) (w : World) (hc : ClAt w b o l) (hs : Srt l) (hn : l.length ≤ 1000000) :
    Calls Tryd.prog 61 #[.slice (some ⟨b, o, none⟩) l.length c, .int .i64 t, .func (.func 62) #[] #[]] w (BsP l t w) := by
  have HC := Lib.hid hc
  have HS := Lib.hid hs
  clear hc hs
  go_enter Tryd.func61, Tryd.ntmps61
  go_wp2_with fail
  go_loopw [9, 10] (fun vi vj wr => ∃ i j : Nat, i ≤ j ∧ j ≤ l.length ∧ vi = .int .i64 i ∧ vj = .int .i64 j ∧ Fr w wr ∧ Hid ((∀ (m : Nat) (h : m < l.length), m < i → l[m].t < t) ∧ ∀ (m : Nat) (h : m < l.length), j ≤ m → t ≤ l[m].t)) (fun vi vj _ => (intOf vj).toNat - (intOf vi).toNat)
  case atStart => exact ⟨0, l.length, Nat.zero_le _, Nat.le_refl _, rfl, rfl, Fr.refl w, Lib.hid ⟨fun m h h' => by omega, fun m h h' => by omega⟩⟩
  case round =>
    obtain ⟨i, j, hij, hj, rfl, rfl, hf, hI⟩ := hrel
    by_cases hlt : i < j
    · go_upto_region 5 with fail
      obtain ⟨h, hh⟩ : ∃ h : Nat, ((i : Int) + j) / 2 = h := ⟨(i + j) / 2, by omega⟩
      rw [hh]
      have hih : i ≤ h := by omega
      have hhj : h < j := by omega
      have hhl : h < l.length := by omega
      obtain ⟨c0, c1, c2, c3⟩ := (HC.out h hhl).fr hf
      have HCm := Lib.hid (fun w' => place1_any l[h] t w')
      have HI := Lib.hid (show (l[h].t < t → ∀ (m : Nat) (hm : m < l.length), m < h + 1 → l[m].t < t) ∧ (¬ l[h].t < t → ∀ (m : Nat) (hm : m < l.length), h ≤ m → t ≤ l[m].t) from ⟨fun hx m hm hmh => by
        rcases Nat.lt_or_ge m h with h1 | h1
        · have := (HS.out.get h1 hhl).1; omega
        · obtain rfl : m = h := by omega
          exact hx, fun hx m hm hmh => by
        rcases Nat.lt_or_ge h m with h1 | h1
        · have := (HS.out.get h1 hm).1; omega
        · obtain rfl : m = h := by omega
          omega⟩)
      unfold C.v at HCm
      generalize l[h] = x at *
      obtain ⟨k', n', t', s'⟩ := x
      simp only at c0 c1 c2 c3 HCm HI
      clear hh
      by_cases hx : t' < t
      · have HX := Lib.hid (HI.out.1 hx)
        have hb := cmp_neg.2 hx
        go_wp2_with (go_at_call 62; refine (HCm.out _).mono ?_; rintro e w2 ⟨rfl, hf2⟩)
        have hf3 := hf.trans hf2
        go_roundw
        case rel => exact ⟨h + 1, j, by omega, by omega, by go_num, rfl, hf3, Lib.hid ⟨HX.out, hI.out.2⟩⟩
        case measure => simp [intOf]; omega
      · have HX := Lib.hid (HI.out.2 hx)
        have hb : ¬ (cmpI t' t < 0) := fun hy => hx (cmp_neg.1 hy)
        go_wp2_with (go_at_call 62; refine (HCm.out _).mono ?_; rintro e w2 ⟨rfl, hf2⟩)
        have hf3 := hf.trans hf2
        go_roundw
        case rel => exact ⟨i, h, by omega, by omega, rfl, rfl, hf3, Lib.hid ⟨hI.out.1, HX.out⟩⟩
        case measure => simp [intOf]; omega
    · obtain rfl : i = j := by omega
      have hp : plc t l = i := plc_eq hj (fun m hm hmi => hI.out.1 m hm hmi) (fun hm => hI.out.2 i hm (Nat.le_refl _))
      have HP := Lib.hid hp
      clear hp
      by_cases hil : i < l.length
      · obtain ⟨c0, c1, c2, c3⟩ := (HC.out i hil).fr hf
        have HCm := Lib.hid (fun w' => place1_any l[i] t w')
        unfold C.v at HCm
        generalize l[i] = x at *
        obtain ⟨k', n', t', s'⟩ := x
        simp only at c0 c1 c2 c3 HCm
        go_wp2_with (go_at_call 62; refine (HCm.out _).mono ?_; rintro e w2 ⟨rfl, hf2⟩)
        go_ret2
        exact ⟨_, by rw [HP.out]; rfl, hf.trans hf2⟩
      · go_wp2_with fail
        go_ret2
        exact ⟨_, by rw [HP.out]; rfl, hf⟩
set_option maxRecDepth 100000 in
theorem bsearch_nil (a : Option Addr) (c : Nat) (t : Int) (w : World) :
    Calls Tryd.prog 61 #[.slice a 0 c, .int .i64 t, .func (.func 62) #[] #[]] w (BsP [] t w) := by
  go_enter Tryd.func61, Tryd.ntmps61
  go_wp2_with fail
  go_loopw [9, 10] (fun vi vj wr => vi = .int .i64 0 ∧ vj = .int .i64 0 ∧ wr = w) (fun _ _ _ => 0)
  case atStart => exact ⟨rfl, rfl, rfl⟩
  case round =>
    obtain ⟨rfl, rfl, rfl⟩ := hrel
    go_wp2_with fail
    go_ret2
    exact ⟨_, rfl, Fr.refl _⟩
theorem bsearch_any {v : Value} {l : List C} (t : Int) (w : World) (h : ClSl w v l) (hs : Srt l) (hn : l.length ≤ 1000000) :
    Calls Tryd.prog 61 #[v, .int .i64 t, .func (.func 62) #[] #[]] w (BsP l t w) := by
  rcases h with ⟨rfl, a, c, rfl⟩ | ⟨b, o, c, rfl, hc⟩
  · exact bsearch_nil a c t w
  · exact bsearch_at b o c l t w hc hs hn

/-! ### ContainsFunc -/
-- What the closure captures: a claim in block B.
set_option maxHeartbeats 400000 in
set_option maxRecDepth 100000 in
theorem denies1_any (h c : C) (B : Nat) (w : World) (hh : h.fits) (hc : c.fits) (hB : CAt w B c) :
    Calls Tryd.prog 51 #[h.v, .pointer (some ⟨B, 0, none⟩)] w fun e w' => e = .returned (.bool (contra h c)) ∧ Fr w w' := by
  have hA := CAt.new w h
  have hf := Fr.alloc w (.cells #[.int .i64 h.k, .int .i64 h.n, .int .i64 h.t, .string (S h.s)] 68)
  obtain ⟨a0, a1, a2, a3⟩ := hA
  obtain ⟨b0, b1, b2, b3⟩ := hB.fr hf
  have HCm := Lib.hid (fun w' => contra_any h c w' hh hc)
  generalize contra h c = x at *
  unfold C.v at HCm ⊢
  clear hB hh hc
  go_enter Tryd.func51, Tryd.ntmps51
  go_wp2_with (go_at_call 26; refine (HCm.out _).mono ?_; rintro e w2 ⟨rfl, hf2⟩)
  go_ret
  exact ⟨rfl, hf.trans hf2⟩
def IdP (l : List C) (c : C) (w : World) (e : Ending) (w' : World) : Prop := ∃ r : Int, e = .returned (.int .i64 r) ∧ decide (0 ≤ r) = (l.any fun h => contra h c) ∧ Fr w w'
theorem any_take (l : List C) (p : C → Bool) (k : Nat) (hk : k < l.length) (_h : ∀ (m : Nat) (hm : m < l.length), m < k → p l[m] = false) (hp : p l[k] = true) : l.any p = true := List.any_eq_true.2 ⟨_, List.getElem_mem hk, hp⟩
theorem any_none (l : List C) (p : C → Bool) (h : ∀ (m : Nat) (hm : m < l.length), p l[m] = false) : l.any p = false := by
  rw [List.any_eq_false]
  intro x hx
  obtain ⟨m, hm, rfl⟩ := List.getElem_of_mem hx
  rw [h m hm]; simp
set_option maxHeartbeats 1000000 in
set_option maxRecDepth 100000 in
theorem indexF_at (b o cp : Nat) (l : List C) (c : C) (B : Nat) (w : World) (hc : ClAt w b o l) (hl : ∀ h ∈ l, h.fits) (hf : c.fits) (hB : CAt w B c) (hn : l.length ≤ 1000000) :
    Calls Tryd.prog 64 #[.slice (some ⟨b, o, none⟩) l.length cp, .func (.func 51) #[] #[.pointer (some ⟨B, 0, none⟩)]] w (IdP l c w) := by
  have HC := Lib.hid hc
  have HL := Lib.hid hl
  have HF := Lib.hid hf
  have HB := Lib.hid hB
  clear hc hl hf hB
  go_enter Tryd.func64, Tryd.ntmps64
  go_wp2_with fail
  go_loopw [8] (fun vi wr => ∃ i : Nat, i ≤ l.length ∧ vi = .int .i64 i ∧ Fr w wr ∧ Hid (∀ (m : Nat) (hm : m < l.length), m < i → contra l[m] c = false)) (fun vi _ => l.length - (intOf vi).toNat)
  case atStart => exact ⟨0, Nat.zero_le _, rfl, Fr.refl w, Lib.hid (fun m hm h => by omega)⟩
  case round =>
    obtain ⟨i, hi, rfl, hfr, hI⟩ := hrel
    by_cases hlt : i < l.length
    · obtain ⟨c0, c1, c2, c3⟩ := (HC.out i hlt).fr hfr
      have HCm := Lib.hid (fun w' (h : Fr wr w') => denies1_any l[i] c B w' (HL.out _ (List.getElem_mem hlt)) HF.out (HB.out.fr (hfr.trans h)))
      have HA := Lib.hid (fun h : contra l[i] c = true => any_take l (fun h => contra h c) i hlt hI.out h)
      have HN := Lib.hid (fun h : contra l[i] c = false => show ∀ (m : Nat) (hm : m < l.length), m < i + 1 → contra l[m] c = false from fun m hm hmi => by
        rcases Nat.lt_or_ge m i with h1 | h1
        · exact hI.out m hm h1
        · obtain rfl : m = i := by omega
          exact h)
      generalize contra l[i] c = x at *
      unfold C.v at HCm
      generalize l[i] = y at *
      obtain ⟨k', n', t', s'⟩ := y
      simp only at c0 c1 c2 c3 HCm
      cases x with
      | true =>
        go_wp2_with (go_at_call 51; refine (HCm.out _ (by exact Fr.refl _)).mono ?_; rintro e w2 ⟨rfl, hf2⟩)
        go_ret
        exact ⟨i, rfl, by rw [HA.out (by first | trivial | rfl)]; simp, hfr.trans hf2⟩
      | false =>
        have HN2 := Lib.hid (HN.out (by first | trivial | rfl))
        go_wp2_with (go_at_call 51; refine (HCm.out _ (by exact Fr.refl _)).mono ?_; rintro e w2 ⟨rfl, hf2⟩)
        have hf3 := hfr.trans hf2
        go_roundw
        case rel => exact ⟨i + 1, by omega, by go_num, hf3, HN2⟩
        case measure => simp [intOf]; omega
    · have HN := Lib.hid (any_none l (fun h => contra h c) (fun m hm => hI.out m hm (by omega)))
      go_wp2_with fail
      go_ret
      exact ⟨-1, rfl, by rw [HN.out]; rfl, hfr⟩
set_option maxRecDepth 100000 in
theorem indexF_nil (a : Option Addr) (cp : Nat) (c : C) (B : Nat) (w : World) :
    Calls Tryd.prog 64 #[.slice a 0 cp, .func (.func 51) #[] #[.pointer (some ⟨B, 0, none⟩)]] w (IdP [] c w) := by
  go_enter Tryd.func64, Tryd.ntmps64
  go_wp2_with fail
  go_loopw [8] (fun vi wr => vi = .int .i64 0 ∧ wr = w) (fun _ _ => 0)
  case atStart => exact ⟨rfl, rfl⟩
  case round =>
    obtain ⟨rfl, rfl⟩ := hrel
    go_wp2_with fail
    go_ret
    exact ⟨-1, rfl, rfl, Fr.refl _⟩
set_option maxRecDepth 100000 in
theorem contains_any {v : Value} {l : List C} (c : C) (B : Nat) (w : World) (h : ClSl w v l) (hl : ∀ h ∈ l, h.fits) (hf : c.fits) (hB : CAt w B c) (hn : l.length ≤ 1000000) :
    Calls Tryd.prog 50 #[v, .func (.func 51) #[] #[.pointer (some ⟨B, 0, none⟩)]] w fun e w' => e = .returned (.bool (l.any fun h => contra h c)) ∧ Fr w w' := by
  have HI : Hid (Calls Tryd.prog 64 #[v, .func (.func 51) #[] #[.pointer (some ⟨B, 0, none⟩)]] w (IdP l c w)) := Lib.hid (by
    rcases h with ⟨rfl, a, cp, rfl⟩ | ⟨b, o, cp, rfl, hc⟩
    · exact indexF_nil a cp c B w
    · exact indexF_at b o cp l c B w hc hl hf hB hn)
  obtain ⟨a, cp, rfl⟩ := h.len
  clear h hl hf hB
  go_enter Tryd.func50, Tryd.ntmps50
  go_wp2_with (go_at_call 64; refine HI.out.mono ?_; rintro e w2 ⟨r, rfl, hr, hf2⟩)
  go_ret
  exact ⟨by first | rfl | (rw [hr]; rfl) | (rw [← hr]; rfl) | (rw [← hr]), hf2⟩
end Go.Proofs.YthppefkamklakaaDoor
