/-
  Slices of signatures; slices.Clone of them; Claims, Age, Known, New, keyOf.
-/
import Derived.Test.YthppefkamklakaaDoorVe
namespace Go.Proofs.YthppefkamklakaaDoor
open Go.RowKit Go.MapKept Go.Maps Go.WideMaps

/-! ### Slices of signatures -/
def GAt (w : World) (b o : Nat) (l : List Sg) : Prop := ∀ (i : Nat) (h : i < l.length), SgAt w b (o + i * 3) l[i]
theorem GAt.fr {w w' : World} {b o : Nat} {l : List Sg} (h : GAt w b o l) (hf : Fr w w') : GAt w' b o l := fun i hi => (h i hi).fr hf
/-- A slice of signatures: empty, or signatures at an address. -/
def GSl (w : World) (v : Value) (l : List Sg) : Prop := (l = [] ∧ ∃ a c, v = .slice a 0 c) ∨ ∃ b o c, v = .slice (some ⟨b, o, none⟩) l.length c ∧ GAt w b o l
theorem GSl.fr {w w' : World} {v : Value} {l : List Sg} (h : GSl w v l) (hf : Fr w w') : GSl w' v l := by
  rcases h with h | ⟨b, o, c, hv, hc⟩
  · exact .inl h
  · exact .inr ⟨b, o, c, hv, hc.fr hf⟩
theorem GSl.len {w : World} {v : Value} {l : List Sg} (h : GSl w v l) : ∃ a c, v = .slice a l.length c := by
  rcases h with ⟨rfl, a, c, rfl⟩ | ⟨b, o, c, rfl, _⟩
  · exact ⟨a, c, rfl⟩
  · exact ⟨_, _, rfl⟩
theorem GSl.own {B n : Nat} {w : World} {v : Value} {l : List Sg} (h : w.ownsRow B 37 3 v n (sgC l)) (hn : n = l.length) : GSl w v l := by
  rcases Nat.eq_zero_or_pos l.length with h0 | h0
  · have hl : l = [] := List.length_eq_zero_iff.1 h0
    obtain ⟨a, c, rfl⟩ := row_form h
    subst hl
    exact .inl ⟨rfl, a, c, by rw [hn]; rfl⟩
  · obtain ⟨g, cap, rfl, _, hc⟩ := sg_at h hn h0
    exact .inr ⟨g, 0, cap, rfl, fun i hi => by rw [Nat.zero_add]; exact hc i hi⟩
theorem GAt.cells {w : World} {b o : Nat} {l : List Sg} (h : GAt w b o l) : ∀ j u, (sgC l)[j]? = some u → w.cell? ((⟨b, o, none⟩ : Addr).add j) = some u := by
  intro j u hu
  have hj : j < l.length * 3 := by have := (List.getElem?_eq_some_iff.1 hu).1; rwa [sgC_length] at this
  have hi : j / 3 < l.length := by omega
  have h1 := h (j / 3) hi
  have h2 := sgC_get l (j / 3) hi
  rw [Addr.add_mid]
  have hm : j % 3 = 0 ∨ j % 3 = 1 ∨ j % 3 = 2 := by omega
  rcases hm with hm | hm | hm
  · have e : j = 3 * (j / 3) := by omega
    rw [e] at hu
    rw [h2.1] at hu
    rw [← hu, ← h1.c0]
    congr 2
    omega
  · have e : j = 3 * (j / 3) + 1 := by omega
    rw [e] at hu
    rw [h2.2.1] at hu
    rw [← hu, ← h1.c1]
    congr 2
    omega
  · have e : j = 3 * (j / 3) + 2 := by omega
    rw [e] at hu
    rw [h2.2.2] at hu
    rw [← hu, ← h1.c2]
    congr 2
    omega

def CloneG (l : List Sg) (w : World) (e : Ending) (w' : World) : Prop := ∃ v', e = .returned v' ∧ w'.ownsRow w.heap.size 37 3 v' l.length (sgC l) ∧ Fr w w'
set_option maxHeartbeats 1000000 in
set_option maxRecDepth 100000 in
theorem gclone_some (ad : Addr) (c : Nat) (l : List Sg) (w : World) (hc : ∀ j u, (sgC l)[j]? = some u → w.cell? (ad.add j) = some u) (hn : l.length ≤ 1000000) :
    Calls Tryd.prog 36 #[.slice (some ad) l.length c] w (CloneG l w) := by
  obtain ⟨i0, hi, hz0, hz1, hz2⟩ := info_parts infoSg
  have HIN := Lib.hid hi
  have hq := fun w => Lib.run_eql_slice_nil (P := Tryd.prog) w 35 _ (some ad) l.length c 0 0 Tryd.underlying35
  have hnb : (0 + l.length) * 32 ≤ 140737488355328 := by omega
  have HC : Hid (∀ j u, (sgC l)[j]? = some u → (w.alloc (.cells #[] 37)).cell? (ad.add j) = some u) := Lib.hid (fun j u hu => (Fr.alloc w (.cells #[] 37)).cell (hc j u hu))
  have HO : Hid ((w.alloc (.cells #[] 37)).ownsRow w.heap.size 37 3 (.slice (some ⟨w.heap.size, 0, none⟩) 0 0) 0 []) := Lib.hid (World.ownsRow_lit (base := w.heap.size) (e := 37) (size := 3) w #[] 0 (Nat.le_refl _) (Nat.zero_le _) rfl)
  clear hi hc
  go_enter Tryd.func36, Tryd.ntmps36
  go_wp2_with ((at_builtin; refine wpList_append_own _ rfl (.tmp 5) (.tmp 6) 35 rfl w.heap.size 37 i0 (.agg #[.int .i64 0, .string (S []), .int .i64 0]) 3 32 Tryd.underlying35 HIN.out hz0 hz1 hz2 rfl (by decide) _ _ _ rfl HO.out ad l.length c (sgC l) rfl (sgC_length l) HC.out (sgC_one l) (by unfold maxLen; omega) hnb (by simp) ?_; intro v1 w1 hown1 hgrow1 _))
  have hg : w1.ownsRow w.heap.size 37 3 v1 l.length (sgC l) := by
    have := hown1
    rw [Nat.zero_add, List.nil_append] at this
    exact this
  have hf : Fr w w1 := ⟨hgrow1.os, hgrow1.tape, hgrow1.output, by have := hgrow1.size; simp at this; omega, fun k hk _ => by
    rw [hgrow1.block k (by simp; omega) (fun e => Nat.ne_of_lt hk (Option.some.inj e))]
    exact (Fr.alloc w _).block hk⟩
  go_ret
  exact ⟨v1, rfl, hg, hf⟩
set_option maxHeartbeats 1000000 in
set_option maxRecDepth 100000 in
theorem gclone_nil (c : Nat) (w : World) : Calls Tryd.prog 36 #[.slice none 0 c] w (CloneG [] w) := by
  have hq := fun w => Lib.run_eql_slice_nil (P := Tryd.prog) w 35 _ none 0 c 0 0 Tryd.underlying35
  go_enter Tryd.func36, Tryd.ntmps36
  go_wp2_with fail
  go_ret
  exact ⟨_, rfl, World.ownsRow_nil _ _ _ _, Fr.refl _⟩
set_option maxRecDepth 100000 in
theorem gclone_any (v : Value) (l : List Sg) (w : World) (h : GSl w v l) (hn : l.length ≤ 1000000) : Calls Tryd.prog 36 #[v] w (CloneG l w) := by
  rcases h with ⟨rfl, a, c, rfl⟩ | ⟨b, o, c, rfl, h⟩
  · cases a with
    | none => exact gclone_nil c w
    | some ad => exact gclone_some ad c [] w (fun j u hu => by simp [sgC] at hu) (by decide)
  · exact gclone_some ⟨b, o, none⟩ c l w h.cells hn

section
variable {W w : World} {B R : Nat} {k : Int} {l : List Sg} {d : VD} {U : Thing}
set_option maxRecDepth 100000 in
theorem vclaims (h : Has W w ((ViewT B R k l d).sep U)) (hn : l.length ≤ 1000000) : Calls Tryd.prog 17 #[.pointer (some ⟨B, 0, none⟩)] w (CloneG l w) := by
  obtain ⟨p, hp⟩ := h.vopen
  have c2 := hp.cell 2 p.av rfl
  have HS := Lib.hid (GSl.own hp.row rfl)
  generalize p.av = av at *
  obtain ⟨a, c, rfl⟩ := HS.out.len
  clear hp h
  go_enter Tryd.func17, Tryd.ntmps17
  go_wp2_with (go_at_call 36; refine (gclone_any _ l _ HS.out hn).mono ?_; rintro e w2 ⟨v', rfl, ho, hf⟩; obtain ⟨va, vc, rfl⟩ := row_form ho)
  go_ret
  exact ⟨_, rfl, ho, hf⟩
/-- What Age returns. -/
def agO (d : VD) (now : Int) : Int := if szT d < 0 ∨ now < szT d then -1 else now - szT d
open Classical in
/-- What Known returns. -/
noncomputable def knB (d : VD) (n : Int) : Bool := decide (∀ i : Int, 0 ≤ i → i < n → (d.en i).isSome = true)
theorem knB_iff {d : VD} {n : Int} : knB d n = true ↔ ∀ i : Int, 0 ≤ i → i < n → (d.en i).isSome = true := by unfold knB; simp
end

/-! ### New -/
set_option maxRecDepth 100000 in
theorem vnew_no (a : Option Addr) (k : Int) (w : World) (h : a = none ∨ ¬ IsKey k) : Calls Tryd.prog 15 #[.pointer a, .int .i64 k] w fun e w' => e = .returned (.pointer none) ∧ Fr w w' := by
  cases a with
  | none =>
    go_enter Tryd.func15, Tryd.ntmps15
    go_wp2_with fail
    go_ret
    exact ⟨rfl, Fr.refl _⟩
  | some ad =>
    have hk : ¬ IsKey k := h.elim (fun h => by cases h) id
    clear h
    rcases notKey hk with h | ⟨h0, h⟩
    · go_enter Tryd.func15, Tryd.ntmps15
      go_wp2_with fail
      go_ret
      exact ⟨rfl, Fr.refl _⟩
    · go_enter Tryd.func15, Tryd.ntmps15
      go_wp2_with fail
      go_ret
      exact ⟨rfl, Fr.refl _⟩
theorem vnew_has {W w : World} {U : Thing} (h : Has W w U) (R : Nat) (k : Int) :
    Has W (((((w.alloc (.map #[] 0)).alloc (.map #[] 0)).alloc (.map #[] 0)).alloc (.map #[] 0)).alloc (.cells #[.pointer (some ⟨R, 0, none⟩), .int .i64 k, .slice none 0 0, .map (some w.heap.size), .map (some (w.heap.size + 1)), .map (some (w.heap.size + 2)), .map (some (w.heap.size + 3)), .slice none 0 0] 87)) ((ViewT (w.heap.size + 4) R k [] vd0).sep U) := by
  have h1 := (((h.nilRow 68 4).mbnew).menew).mnew
  have h2 := h1.mnew
  have h3 := (h2.nilRow 37 3).box 87 #[.pointer (some ⟨R, 0, none⟩), .int .i64 k, .slice none 0 0, .map (some w.heap.size), .map (some (w.heap.size + 1)), .map (some (w.heap.size + 2)), .map (some (w.heap.size + 3)), .slice none 0 0]
  refine VP.close (p := ⟨.slice none 0 0, w.heap.size, w.heap.size + 1, w.heap.size + 2, w.heap.size + 3, .slice none 0 0, 0, 0, 0, 0⟩) ?_
  have e1 : (w.alloc (.map #[] 0)).heap.size = w.heap.size + 1 := by simp
  have e2 : ((w.alloc (.map #[] 0)).alloc (.map #[] 0)).heap.size = w.heap.size + 2 := by simp
  have e3 : (((w.alloc (.map #[] 0)).alloc (.map #[] 0)).alloc (.map #[] 0)).heap.size = w.heap.size + 3 := by simp
  have e4 : ((((w.alloc (.map #[] 0)).alloc (.map #[] 0)).alloc (.map #[] 0)).alloc (.map #[] 0)).heap.size = w.heap.size + 4 := by simp
  rw [e1, e2, e3, e4] at h3
  refine Has.map h3 fun O h => ?_
  refine sep_under h fun O h => sep_under h fun O h => ?_
  -- absent, first, entries, marks, heads: in the other order
  exact sep_under (sp4 h) fun _ h => sep_under (sp3 h) fun _ h => sep_turn h
set_option maxHeartbeats 400000 in
set_option maxRecDepth 100000 in
theorem vnew_yes {W w : World} {U : Thing} (h : Has W w U) (R : Nat) (k : Int) (hk : IsKey k) : Calls Tryd.prog 15 #[.pointer (some ⟨R, 0, none⟩), .int .i64 k] w fun e w' => ∃ B, e = .returned (.pointer (some ⟨B, 0, none⟩)) ∧ Has W w' ((ViewT B R k [] vd0).sep U) := by
  have hmm := @run_makeMap Tryd.prog
  have h0 := hk.1
  have h1 := hk.2
  have H := Lib.hid (vnew_has h R k)
  clear h hk
  go_enter Tryd.func15, Tryd.ntmps15
  go_wp2_with fail
  go_ret
  exact ⟨_, rfl, H.out⟩

/-! ### keyOf -/
set_option maxRecDepth 100000 in
theorem keyOf_any (c : C) (w : World) (hs : c.s.length ≤ 9223372036854775807) : Calls Tryd.prog 48 #[c.v] w fun e w' => e = .returned (.string (S (keyT c.s))) ∧ Fr w w' := by
  obtain ⟨a0, a1, a2, a3⟩ := CAt.new w c
  have hf := Fr.alloc w (.cells #[.int .i64 c.k, .int .i64 c.n, .int .i64 c.t, .string (S c.s)] 68)
  have HK := Lib.hid (fun w' => key_any c.s w' hs)
  have HT := Lib.hid (show keyT c.s = (key c.s).getD [] from rfl)
  unfold C.v
  generalize key c.s = o at *
  generalize keyT c.s = y at *
  cases o with
  | none =>
    have hy : y = [] := HT.out
    subst hy
    unfold keyV at HK
    clear HT
    go_enter Tryd.func48, Tryd.ntmps48
    go_wp2_with (go_at_call 37; refine (HK.out _).mono ?_; rintro e w2 ⟨rfl, hf2⟩)
    go_ret
    exact ⟨rfl, hf.trans hf2⟩
  | some t =>
    have hy : y = t := HT.out
    subst hy
    unfold keyV at HK
    clear HT
    go_enter Tryd.func48, Tryd.ntmps48
    go_wp2_with (go_at_call 37; refine (HK.out _).mono ?_; rintro e w2 ⟨rfl, hf2⟩)
    go_ret
    exact ⟨rfl, hf.trans hf2⟩
end Go.Proofs.YthppefkamklakaaDoor
