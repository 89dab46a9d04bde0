/-
  View: the law's Say, Words, Turned, Few.
-/
import Derived.Test.YtapdabebiinnnaaVl
import Derived.Test.YtapdabebiinnnaaCs
namespace Go.Proofs.Ytapdabebiinnnaa
open Go.RowKit Go.MapKept Go.Maps Go.WideMaps

/-- A Say: its key, its claim, its raw text, its change. -/
abbrev Sy := Int × C × Txt × Int
def Sy.ok (x : Sy) : Prop := Wm.inInt x.1 ∧ x.2.1.fits ∧ x.2.2.1.length ≤ 9223372036854775807 ∧ Wm.inInt x.2.2.2
noncomputable def wo (x : Sy) : Txt := if x.2.2.1 = [] then textR x.2.1 else x.2.2.1
noncomputable def sdOf (x : Sy) : Sd := (x.1, wo x)
def tn (s : Sg) (odd : Int) : Sg := if odd = 1 then (s.1, s.2.1, s.2.2 + 1) else if odd = 2 then (s.1, s.2.1 ++ [120], s.2.2) else if odd = 3 then (s.1 + 1, s.2.1, s.2.2) else s
def syV (x : Sy) : Value := .agg #[.int .i64 x.1, .int .i64 x.2.1.k, .int .i64 x.2.1.n, .int .i64 x.2.1.t, .string (S x.2.1.s), .string (S x.2.2.1), .int .i64 x.2.2.2]

/-! ### A slice of Says -/
structure SyIn (w : World) (b i : Nat) (x : Sy) : Prop where
  c0 : w.cell? ⟨b, i, none⟩ = some (.int .i64 x.1)
  c1 : w.cell? ⟨b, i + 1, none⟩ = some (.int .i64 x.2.1.k)
  c2 : w.cell? ⟨b, i + 2, none⟩ = some (.int .i64 x.2.1.n)
  c3 : w.cell? ⟨b, i + 3, none⟩ = some (.int .i64 x.2.1.t)
  c4 : w.cell? ⟨b, i + 4, none⟩ = some (.string (S x.2.1.s))
  c5 : w.cell? ⟨b, i + 5, none⟩ = some (.string (S x.2.2.1))
  c6 : w.cell? ⟨b, i + 6, none⟩ = some (.int .i64 x.2.2.2)
theorem SyIn.fr {w w' : World} {b i : Nat} {x : Sy} (h : SyIn w b i x) (hf : Fr w w') : SyIn w' b i x := ⟨hf.cell h.c0, hf.cell h.c1, hf.cell h.c2, hf.cell h.c3, hf.cell h.c4, hf.cell h.c5, hf.cell h.c6⟩
def SyAt (w : World) (b o : Nat) (l : List Sy) : Prop := ∀ (i : Nat) (h : i < l.length), SyIn w b (o + i * 7) l[i]
theorem SyAt.fr {w w' : World} {b o : Nat} {l : List Sy} (h : SyAt w b o l) (hf : Fr w w') : SyAt w' b o l := fun i hi => (h i hi).fr hf
def SySl (w : World) (v : Value) (l : List Sy) : Prop := (l = [] ∧ ∃ a c, v = .slice a 0 c) ∨ ∃ b o c, v = .slice (some ⟨b, o, none⟩) l.length c ∧ SyAt w b o l
theorem SySl.fr {w w' : World} {v : Value} {l : List Sy} (h : SySl w v l) (hf : Fr w w') : SySl w' v l := by
  rcases h with h | ⟨b, o, c, hv, hc⟩
  · exact .inl h
  · exact .inr ⟨b, o, c, hv, hc.fr hf⟩
theorem SySl.len {w : World} {v : Value} {l : List Sy} (h : SySl w v l) : ∃ a c, v = .slice a l.length c := by
  rcases h with ⟨rfl, a, c, rfl⟩ | ⟨b, o, c, rfl, _⟩
  · exact ⟨a, c, rfl⟩
  · exact ⟨_, _, rfl⟩
theorem SySl.get {w : World} {v : Value} {l : List Sy} (h : SySl w v l) (h0 : 0 < l.length) : ∃ b o c, v = .slice (some ⟨b, o, none⟩) l.length c ∧ SyAt w b o l := by
  rcases h with ⟨rfl, _⟩ | h
  · exact absurd h0 (by decide)
  · exact h
/-- What is known of the arguments. -/
def SArg (l : List Sy) : Prop := l.length ≤ 9223372036854775807 ∧ ∀ x ∈ l, x.ok
def FewY (l : List Sy) : Prop := l.length ≤ 20 ∧ ∀ x ∈ l, x.2.2.1.length ≤ 300 ∧ x.2.1.s.length ≤ 300
instance (l : List Sy) : Decidable (FewY l) := by unfold FewY; exact inferInstance
theorem wo_len {x : Sy} (h : x.2.2.1.length ≤ 300) : (wo x).length ≤ 20100 := by
  unfold wo
  split
  · unfold textR
    split
    · rename_i h1; exact textC_len h1
    · simp
  · omega
set_option maxRecDepth 100000 in
theorem few_at (b o c : Nat) (l : List Sy) (w : World) (hc : SyAt w b o l) (hn : l.length ≤ 9223372036854775807) (hs : ∀ x ∈ l, x.2.2.1.length ≤ 9223372036854775807 ∧ x.2.1.s.length ≤ 9223372036854775807) :
    Calls Try.prog 7 #[.slice (some ⟨b, o, none⟩) l.length c, .int .i64 20] w fun e w' => e = .returned (.bool (decide (FewY l))) ∧ w' = w := by
  have HC := Lib.hid hc
  have HS := Lib.hid hs
  clear hc hs
  go_enter Try.func7, Try.ntmps7
  go_wp2_with fail
  go_loopw [5] (fun i wr => ∃ k : Nat, k ≤ l.length ∧ k ≤ 21 ∧ i = .int .i64 k ∧ wr = w ∧ Hid (∀ (j : Nat) (h : j < k) (h' : j < l.length), l[j].2.2.1.length ≤ 300 ∧ l[j].2.1.s.length ≤ 300)) (fun i _ => l.length - (intOf i).toNat)
  case atStart => exact ⟨0, Nat.zero_le _, by omega, rfl, rfl, Lib.hid (fun j h => by omega)⟩
  case round =>
    obtain ⟨k, hk, hk2, rfl, rfl, hA⟩ := hrel
    by_cases hlt : k < l.length
    · by_cases h21 : k < 21
      · have c1 := (HC.out k hlt).c5
        have c2 := (HC.out k hlt).c4
        have hsl := HS.out _ (List.getElem_mem hlt)
        have HN := Lib.hid (show ¬ (l[k].2.2.1.length ≤ 300 ∧ l[k].2.1.s.length ≤ 300) → decide (FewY l) = false from fun hb => decide_eq_false (fun h => hb (h.2 _ (List.getElem_mem hlt))))
        have HY := Lib.hid (show (l[k].2.2.1.length ≤ 300 ∧ l[k].2.1.s.length ≤ 300) → ∀ (j : Nat) (h : j < k + 1) (h' : j < l.length), l[j].2.2.1.length ≤ 300 ∧ l[j].2.1.s.length ≤ 300 from fun hb j h h' => by
          rcases Nat.lt_or_ge j k with hj | hj
          · exact hA.out j hj h'
          · obtain rfl : j = k := by omega
            exact hb)
        clear hA
        generalize l[k].2.2.1 = x at *
        generalize l[k].2.1.s = y at *
        obtain ⟨hs1, hs2⟩ := hsl
        by_cases hb : x.length ≤ 300
        · by_cases hb2 : y.length ≤ 300
          · have HA := Lib.hid (HY.out ⟨hb, hb2⟩)
            clear HY HN
            go_wp2_with fail
            go_roundw
            case rel => exact ⟨k + 1, by omega, by omega, by go_num, trivial, HA⟩
            case measure => simp [intOf]; omega
          · have HD := Lib.hid (HN.out (fun h => hb2 h.2))
            clear HY HN
            go_wp2_with fail
            go_ret
            exact ⟨by rw [HD.out]; rfl, rfl⟩
        · have HD := Lib.hid (HN.out (fun h => hb h.1))
          clear HY HN
          go_wp2_with fail
          go_ret
          exact ⟨by rw [HD.out]; rfl, rfl⟩
      · have HD := Lib.hid (show decide (FewY l) = false from decide_eq_false (fun h => by have := h.1; omega))
        clear hA
        go_wp2_with fail
        go_ret
        refine ⟨?_, rfl⟩
        rw [HD.out]
        have : ¬ ((l.length : Int) ≤ 20) := by omega
        simp [this]
    · have HD := Lib.hid (show decide (FewY l) = decide ((l.length : Int) ≤ 20) by
        rw [Bool.eq_iff_iff]
        simp only [decide_eq_true_eq]
        constructor
        · intro h; have := h.1; omega
        · intro h
          refine ⟨by omega, fun s hs => ?_⟩
          obtain ⟨j, hj, rfl⟩ := List.getElem_of_mem hs
          exact hA.out j (by omega) hj)
      clear hA
      go_wp2_with fail
      go_ret
      exact ⟨by rw [HD.out]; rfl, rfl⟩
set_option maxRecDepth 100000 in
theorem few_nil (a : Option Addr) (c : Nat) (w : World) :
    Calls Try.prog 7 #[.slice a 0 c, .int .i64 20] w fun e w' => e = .returned (.bool true) ∧ w' = w := by
  go_enter Try.func7, Try.ntmps7
  go_wp2_with fail
  go_loopw [5] (fun i wr => i = .int .i64 0 ∧ wr = w) (fun _ _ => 0)
  case atStart => exact ⟨rfl, rfl⟩
  case round =>
    obtain ⟨rfl, rfl⟩ := hrel
    go_wp2_with fail
    go_ret
    exact ⟨rfl, rfl⟩
theorem few_any {v : Value} {l : List Sy} (w : World) (h : SySl w v l) (ha : SArg l) :
    Calls Try.prog 7 #[v, .int .i64 20] w fun e w' => e = .returned (.bool (decide (FewY l))) ∧ w' = w := by
  rcases h with ⟨rfl, a, c, rfl⟩ | ⟨b, o, c, rfl, hc⟩
  · exact few_nil a c w
  · exact few_at b o c l w hc ha.1 fun x hx => ⟨(ha.2 x hx).2.2.1, (ha.2 x hx).2.1.2.2.2⟩

/-! ### Words, Turned -/
set_option maxRecDepth 100000 in
theorem words_any (x : Sy) (w : World) (hx : x.ok) :
    Calls Try.prog 20 #[syV x] w fun e w' => e = .returned (.string (S (wo x))) ∧ Fr w w' := by
  obtain ⟨y, c, r, odd⟩ := x
  have HT := Lib.hid (fun w' => rtextC_any c w' hx.2.1)
  have hrl := hx.2.2.1
  have HW0 := Lib.hid (show r = [] → wo (y, c, r, odd) = textR c from fun h => by unfold wo; rw [if_pos h])
  have HW1 := Lib.hid (show r ≠ [] → wo (y, c, r, odd) = r from fun h => by unfold wo; rw [if_neg h])
  generalize wo (y, c, r, odd) = o at *
  unfold C.v at HT
  unfold syV
  simp only at hrl ⊢
  obtain ⟨ck, cn, ct, cs⟩ := c
  simp only at HT HW0 ⊢
  clear hx
  by_cases hr : r = []
  · subst hr
    obtain rfl := HW0.out (by first | rfl | trivial)
    clear HW0 HW1
    go_enter Try.func20, Try.ntmps20
    go_wp2_with (go_at_call 30; refine (HT.out _).mono ?_; rintro e w2 ⟨rfl, hf2⟩)
    go_ret
    exact ⟨rfl, (Fr.alloc _ _).trans hf2⟩
  · obtain rfl := HW1.out hr
    have hb : o.isEmpty = false := by simpa using hr
    clear HW0 HW1
    go_enter Try.func20, Try.ntmps20
    go_wp2_with fail
    go_ret
    exact ⟨rfl, Fr.alloc _ _⟩
theorem S_x (t : Txt) : S t ++ ⟨#[120]⟩ = S (t ++ [120]) := S_append t [120]
set_option maxRecDepth 100000 in
theorem turned_any (s : Sg) (odd : Int) (w : World) (h1 : 0 ≤ s.1 ∧ s.1 ≤ 1000000000) (h2 : s.2.1.length ≤ 1000000000) (h3 : 0 ≤ s.2.2 ∧ s.2.2 ≤ 1000000000) :
    Calls Try.prog 19 #[sgV s, .int .i64 odd] w fun e w' => e = .returned (sgV (tn s odd)) ∧ Fr w w' := by
  obtain ⟨k, t, m⟩ := s
  simp only at h1 h2 h3
  obtain ⟨h1a, h1b⟩ := h1
  obtain ⟨h3a, h3b⟩ := h3
  unfold sgV
  by_cases e1 : odd = 1
  · subst e1
    have he : tn (k, t, m) 1 = (k, t, m + 1) := rfl
    rw [he]
    go_enter Try.func19, Try.ntmps19
    go_wp2_with fail
    refine bodyPost_ret (v := sgV (k, t, m + 1)) (by simp [results, Try.results19, go_sem]; rfl) rfl ⟨rfl, (Fr.alloc _ _).trans (Fr.alloc _ _)⟩
  by_cases e2 : odd = 2
  · subst e2
    have hx := S_x t
    have he : tn (k, t, m) 2 = (k, t ++ [120], m) := rfl
    rw [he]
    go_enter Try.func19, Try.ntmps19
    go_wp2_with fail
    refine bodyPost_ret (v := sgV (k, t ++ [120], m)) (by simp [results, Try.results19, go_sem]; rfl) rfl ⟨rfl, (Fr.alloc _ _).trans (Fr.alloc _ _)⟩
  by_cases e3 : odd = 3
  · subst e3
    have he : tn (k, t, m) 3 = (k + 1, t, m) := rfl
    rw [he]
    go_enter Try.func19, Try.ntmps19
    go_wp2_with fail
    refine bodyPost_ret (v := sgV (k + 1, t, m)) (by simp [results, Try.results19, go_sem]; rfl) rfl ⟨rfl, (Fr.alloc _ _).trans (Fr.alloc _ _)⟩
  have he : tn (k, t, m) odd = (k, t, m) := by unfold tn; rw [if_neg e1, if_neg e2, if_neg e3]
  rw [he]
  have f1 : (odd == 1) = false := by simpa using e1
  have f2 : (odd == 2) = false := by simpa using e2
  have f3 : (odd == 3) = false := by simpa using e3
  clear e1 e2 e3 he
  go_enter Try.func19, Try.ntmps19
  go_wp2_with fail
  refine bodyPost_ret (v := sgV (k, t, m)) (by simp [results, Try.results19, go_sem]; rfl) rfl ⟨rfl, (Fr.alloc _ _).trans (Fr.alloc _ _)⟩
end Go.Proofs.Ytapdabebiinnnaa
