/-
  View: denies.
-/
import Derived.Test.YthppefkamklakaaDoorVf
namespace Go.Proofs.YthppefkamklakaaDoor
open Go.RowKit Go.MapKept Go.Maps Go.WideMaps Go.BigFrame

theorem dny_0 {d : VD} {c : C} (h : c.k = 0) : dny d c = (enB d c || decide (c.n < (d.ab (keyT c.s)).getD 0)) := by unfold dny; rw [if_pos h]
theorem dny_1 {d : VD} {c : C} (h : c.k = 1) : dny d c = (near d.hd (plc c.t d.hd)).any fun h => contra h c := by unfold dny; rw [if_neg (by omega), if_pos h]
theorem dny_2 {d : VD} {c : C} (h : c.k = 2) : dny d c = (match d.fi c.s with | some n => decide (n < c.n) | none => false) := by unfold dny; rw [if_neg (by omega), if_neg (by omega), if_pos h]; rfl
theorem dny_o {d : VD} {c : C} (h0 : c.k ≠ 0) (h1 : c.k ≠ 1) (h2 : c.k ≠ 2) : dny d c = false := by unfold dny; rw [if_neg h0, if_neg h1, if_neg h2]
theorem key_lenT (s : Txt) : (keyT s).length ≤ s.length := by
  unfold keyT
  cases h : key s with
  | none => simp
  | some k => exact key_len h
theorem near_eq (l : List C) (i : Nat) : near l i = (l.take (min (i + 1) l.length)).drop (i - 1) := by
  unfold near
  congr 1
  rcases Nat.le_total (i + 1) l.length with h | h
  · rw [Nat.min_eq_left h]
  · rw [Nat.min_eq_right h, List.take_length, List.take_of_length_le h]
theorem near_len (l : List C) (i : Nat) : (near l i).length = min (i + 1) l.length - (i - 1) := by
  rw [near_eq, List.length_drop, List.length_take]; omega
/-- The slice of the heads next to a place. -/
theorem near_sl {w : World} {g cap : Nat} {l : List C} (hc : ∀ (i : Nat) (h : i < l.length), CIn w g (i * 4) l[i]) (i : Nat) : ClSl w (.slice (some ⟨g, (i - 1) * 4, none⟩) (near l i).length cap) (near l i) := by
  refine .inr ⟨g, (i - 1) * 4, cap, rfl, fun m hm => ?_⟩
  have hl : i - 1 + m < l.length := by rw [near_len] at hm; omega
  have he : (near l i)[m] = l[i - 1 + m] := by
    have h1 : (near l i)[m]? = l[i - 1 + m]? := by
      show ((l.take (i + 1)).drop (i - 1))[m]? = _
      rw [List.getElem?_drop, List.getElem?_take, if_pos (by rw [near_len] at hm; omega)]
    rw [List.getElem?_eq_getElem hm, List.getElem?_eq_getElem hl] at h1
    exact Option.some.inj h1
  rw [he, ← Nat.add_mul]
  exact hc _ hl
theorem wp_region_cls {P : Program} {D : World → Prop} {id : Nat} {Q : Exit → Act → World → Prop} {a : Act} {w : World} {l : List Oper} (hm : P.follows .mixedOrders = true) (hB : Region.lexB .any l.toArray = true) (hC : D w.drew)
    (h : wpQuiet P l.toArray D (fun a' => ∀ w', D w' → Q .normal a' w') l a) : (Code.region id l.toArray true).wp P Q a w :=
  wp_region_quiet hm hB hC (by simpa using h)
def Cls (w w' : World) : Prop := Fr w w'
theorem Cls.of {a b c : World} (h : Cls a b) (k : Fr b c) : Cls a c := Fr.trans h k
section
variable {W w : World} {B R : Nat} {k : Int} {l : List Sg} {d : VD} {U : Thing}
set_option maxRecDepth 100000 in
theorem vdenies_o (c : C) (h0 : c.k ≠ 0) (h1 : c.k ≠ 1) (h2 : c.k ≠ 2) : Calls Tryd.prog 28 #[.pointer (some ⟨B, 0, none⟩), c.v] w fun e w' => e = .returned (.bool false) ∧ Fr w w' := by
  obtain ⟨a0, a1, a2, a3⟩ := CAt.new w c
  have hf := Fr.alloc w (.cells #[.int .i64 c.k, .int .i64 c.n, .int .i64 c.t, .string (S c.s)] 68)
  have e0 : (c.k == 0) = false := by simpa using h0
  have e1 : (c.k == 1) = false := by simpa using h1
  have e2 : (c.k == 2) = false := by simpa using h2
  unfold C.v
  clear h0 h1 h2
  go_enter Tryd.func28, Tryd.ntmps28
  go_wp2_with fail
  go_ret
  exact ⟨rfl, hf⟩
set_option maxHeartbeats 400000 in
set_option maxRecDepth 100000 in
theorem vdenies_2 (h : Has W w ((ViewT B R k l d).sep U)) (n t : Int) (s : Txt) (hs : s.length ≤ maxLen) : Calls Tryd.prog 28 #[.pointer (some ⟨B, 0, none⟩), .agg #[.int .i64 2, .int .i64 n, .int .i64 t, .string (S s)]] w fun e w' => e = .returned (.bool (match d.fi s with | some m => decide (m < n) | none => false)) ∧ Fr w w' := by
  obtain ⟨p, hp⟩ := h.vopen
  have hf := Fr.alloc w (.cells #[.int .i64 2, .int .i64 n, .int .i64 t, .string (S s)] 68)
  obtain ⟨a0, a1, a2, a3⟩ := CAt.new w ⟨2, n, t, s⟩
  simp only at a0 a1 a2 a3
  have c5 := hf.cell (hp.cell 5 (.map (some p.mF)) rfl)
  have hlk := fun q => ((hp.fi.fr hf).fr (Fr.drewN _ q)).look s hs
  generalize p.mF = M at *
  unfold fiV at hlk
  have HF := Lib.hid hf
  clear hp h hf
  cases ho : d.fi s with
  | none =>
    rw [ho] at hlk
    clear ho
    go_enter Tryd.func28, Tryd.ntmps28
    go_wp2_with fail
    go_quiet (fail)
    go_wp2_with fail
    go_ret
    exact ⟨rfl, HF.out.trans (Fr.drewN _ _)⟩
  | some m =>
    rw [ho] at hlk
    clear ho
    go_enter Tryd.func28, Tryd.ntmps28
    go_wp2_with fail
    go_quiet (fail)
    have HQ := Lib.hid (HF.out.trans (Fr.drewN _ nq))
    replace a1 := (Fr.drewN _ nq).cell a1
    clear hlk a0 a2 a3 c5 HF
    generalize (w.alloc (.cells #[.int .i64 2, .int .i64 n, .int .i64 t, .string (S s)] 68)).drewN nq = w2 at *
    go_wp2_with fail
    all_goals go_ret
    all_goals exact ⟨by first | rfl | (simp; omega), HQ.out⟩
set_option maxHeartbeats 1000000 in
set_option maxRecDepth 100000 in
theorem vdenies_1 (h : Has W w ((ViewT B R k l d).sep U)) (hs : Srt d.hd) (hn : d.hd.length ≤ 1000000) (hfit : ∀ x ∈ d.hd, x.fits) (n t : Int) (s : Txt) (hc : C.fits ⟨1, n, t, s⟩) :
    Calls Tryd.prog 28 #[.pointer (some ⟨B, 0, none⟩), .agg #[.int .i64 1, .int .i64 n, .int .i64 t, .string (S s)]] w fun e w' => e = .returned (.bool ((near d.hd (plc t d.hd)).any fun h => contra h ⟨1, n, t, s⟩)) ∧ Fr w w' := by
  have hf := Fr.alloc w (.cells #[.int .i64 1, .int .i64 n, .int .i64 t, .string (S s)] 68)
  have hA := CAt.new w ⟨1, n, t, s⟩
  have h1 := h.fr hf
  clear h
  have HP := Lib.hid (vplace h1 hs hn ⟨1, n, t, s⟩)
  unfold C.v at HP
  simp only at HP
  have HA := Lib.hid hA
  obtain ⟨a0, a1, a2, a3⟩ := hA
  simp only at a0 a1 a2 a3
  have HF := Lib.hid hf
  have H1 := Lib.hid h1
  have hle := plc_le t d.hd
  obtain ⟨i, hi⟩ : ∃ i, i = plc t d.hd := ⟨_, rfl⟩
  rw [← hi] at HP hle ⊢
  have HC := Lib.hid hc
  have HX := Lib.hid hfit
  clear h1 hf hs hc hfit hi
  go_enter Tryd.func28, Tryd.ntmps28
  go_upto_region 7 with (go_at_call 49; refine HP.out.mono ?_; rintro e w2 ⟨rfl, hf2⟩)
  have H2 := Lib.hid (H1.out.fr hf2)
  have HA2 := Lib.hid (HA.out.fr hf2)
  have HF2 := Lib.hid (HF.out.trans hf2)
  clear HP HA H1 HF hf2 a0 a1 a2 a3
  generalize w.alloc (.cells #[.int .i64 1, .int .i64 n, .int .i64 t, .string (S s)] 68) = w1 at *
  obtain ⟨p, hp⟩ := (H2.out.fr (Fr.drew w2)).vopen
  have c7 := hp.cell 7 p.hv rfl
  have hrow := hp.hd
  generalize p.hv = hv at *
  obtain ⟨L, hL⟩ : ∃ L, L = d.hd.length := ⟨_, rfl⟩
  have hmx : max ((i : Int) - 1) 0 = ((i - 1 : Nat) : Int) := by omega
  have hmn : min ((i : Int) + 1) (L : Int) = ((min (i + 1) L : Nat) : Int) := by omega
  obtain ⟨lo, hlo⟩ : ∃ lo, lo = i - 1 := ⟨_, rfl⟩
  obtain ⟨hi, hhi⟩ : ∃ hi, hi = min (i + 1) L := ⟨_, rfl⟩
  have HNL : Hid ((near d.hd i).length = hi - lo) := Lib.hid (by rw [near_len, hhi, hlo, hL])
  have HSL : Hid (∀ g cap cap', hv = .slice (some ⟨g, 0, none⟩) L cap → ClSl w2.drew (.slice (some ⟨g, lo * 4, none⟩) (near d.hd i).length cap') (near d.hd i)) := Lib.hid fun g cap cap' hg => by
    rcases Nat.eq_zero_or_pos d.hd.length with h0 | h0
    · refine .inl ⟨?_, ⟨_, _, by rw [HNL.out, show hi - lo = 0 by omega]⟩⟩
      rw [List.length_eq_zero_iff.1 h0]; unfold near; simp
    · obtain ⟨g', cap2, hv', _, hcc⟩ := crow_at hrow rfl h0
      rw [hg] at hv'
      obtain ⟨rfl, _⟩ : g = g' ∧ _ := by simpa using hv'
      rw [hlo]
      exact near_sl hcc i
  have HNIL : Hid (d.hd = [] → near d.hd i = []) := Lib.hid fun h => by rw [h]; unfold near; simp
  have hll : lo ≤ hi := by omega
  have hhL : hi ≤ L := by omega
  have hLn : L ≤ 1000000 := by omega
  have HFT := Lib.hid (show ∀ x ∈ near d.hd i, x.fits from fun x hx => HX.out x (near_sub hx))
  have HLN := Lib.hid (show (near d.hd i).length ≤ 1000000 by rw [HNL.out]; omega)
  rcases hrow.2 with ⟨rfl, h0⟩ | ⟨g, cap, cur, rfl, _, _, hcap, hc63, _⟩
  · have hd0 : d.hd = [] := List.length_eq_zero_iff.1 h0
    have hLz : L = 0 := by omega
    have hiz : i = 0 := by omega
    have hlz : lo = 0 := by omega
    have hhz : hi = 0 := by omega
    have HSE : Hid (ClSl w2.drew (.slice none 0 0) (near d.hd i)) := Lib.hid (.inl ⟨HNIL.out hd0, _, _, rfl⟩)
    have hmx : max ((i : Int) - 1) 0 = 0 := by omega
    have hmn : min ((i : Int) + 1) 0 = 0 := by omega
    clear hp hrow hhi hlo hL hle hd0 h0 hlz hhz hll hhL HSL HNIL HNL HX hiz hLz
    go_region
    go_wp2_with (go_at_call 50; refine (contains_any ⟨1, n, t, s⟩ w.heap.size _ HSE.out HFT.out HC.out (HA2.out.fr (Fr.drew _)) HLN.out).mono ?_; rintro e w4 ⟨rfl, hf4⟩)
    go_ret
    exact ⟨rfl, HF2.out.trans ((Fr.drew _).trans hf4)⟩
  · rw [← hL] at c7 hcap HSL
    rw [← hlo] at hmx
    rw [← hhi] at hmn
    have HSE : Hid (ClSl w2.drew (.slice (if cap = lo then some ⟨g, 0, none⟩ else some ⟨g, lo * 4, none⟩) (hi - lo) (cap - lo)) (near d.hd i)) := Lib.hid (by
      split
      · exact .inl ⟨List.length_eq_zero_iff.1 (by rw [HNL.out]; omega), _, _, by rw [show hi - lo = 0 by omega]⟩
      · rw [← HNL.out]; exact HSL.out g cap (cap - lo) rfl)
    clear hp hrow hhi hlo hL hle HSL HNIL HNL HX
    go_region
    go_wp2_with (go_at_call 50; refine (contains_any ⟨1, n, t, s⟩ w.heap.size _ HSE.out HFT.out HC.out (HA2.out.fr (Fr.drew _)) HLN.out).mono ?_; rintro e w4 ⟨rfl, hf4⟩)
    all_goals go_ret
    all_goals exact ⟨rfl, HF2.out.trans ((Fr.drew _).trans hf4)⟩
theorem four_fr {w w' : World} {T B M : Nat} {n : Int} {s : Txt} {k t : Int} (h : w.cell? ⟨T, 0, none⟩ = some (.int .i64 k) ∧ w.cell? ⟨T, 1, none⟩ = some (.int .i64 n) ∧ w.cell? ⟨T, 2, none⟩ = some (.int .i64 t) ∧ w.cell? ⟨T, 3, none⟩ = some (.string (S s)) ∧ w.cell? ⟨B, 6, none⟩ = some (.map (some M))) (hf : Fr w w') :
    w'.cell? ⟨T, 0, none⟩ = some (.int .i64 k) ∧ w'.cell? ⟨T, 1, none⟩ = some (.int .i64 n) ∧ w'.cell? ⟨T, 2, none⟩ = some (.int .i64 t) ∧ w'.cell? ⟨T, 3, none⟩ = some (.string (S s)) ∧ w'.cell? ⟨B, 6, none⟩ = some (.map (some M)) := ⟨hf.cell h.1, hf.cell h.2.1, hf.cell h.2.2.1, hf.cell h.2.2.2.1, hf.cell h.2.2.2.2⟩
set_option maxHeartbeats 2000000 in
set_option maxRecDepth 100000 in
theorem vdenies_0 (h : Has W w ((ViewT B R k l d).sep U)) (n t : Int) (s : Txt) (hn : Wm.inInt n) (hs : s.length ≤ 9223372036854775807) :
    Calls Tryd.prog 28 #[.pointer (some ⟨B, 0, none⟩), .agg #[.int .i64 0, .int .i64 n, .int .i64 t, .string (S s)]] w fun e w' => e = .returned (.bool (enB d ⟨0, n, t, s⟩ || decide (n < (d.ab (keyT s)).getD 0))) ∧ Fr w w' := by
  have hf := Fr.alloc w (.cells #[.int .i64 0, .int .i64 n, .int .i64 t, .string (S s)] 68)
  have hA := CAt.new w ⟨0, n, t, s⟩
  obtain ⟨p, hp⟩ := (h.fr hf).vopen
  have c4 := hp.cell 4 (.map (some p.mE)) rfl
  have hlk := fun q => (hp.en.fr (Fr.drewN _ q)).look n hn
  have HAB := Lib.hid (fun (w' : World) (hw : Fr (w.alloc (.cells #[.int .i64 0, .int .i64 n, .int .i64 t, .string (S s)] 68)) w') => (hp.ab.fr hw).look1 (keyT s) (by have := key_lenT s; unfold maxLen; omega))
  have HK := Lib.hid (fun w' => keyOf_any ⟨0, n, t, s⟩ w' hs)
  unfold C.v at HK
  simp only at HK
  have hC := show _ from (⟨hA.1, hA.2.1, hA.2.2.1, hA.2.2.2, hp.cell 6 (.map (some p.mA)) rfl⟩ : _ ∧ _ ∧ _ ∧ _ ∧ _)
  simp only at hC
  have HC := Lib.hid hC
  have HG : Hid ((abV d (keyT s)).getD (.int .i64 0) = .int .i64 ((d.ab (keyT s)).getD 0)) := Lib.hid (by unfold abV; cases d.ab (keyT s) <;> rfl)
  rw [HG.out] at HAB
  have HEN := Lib.hid (show enB d ⟨0, n, t, s⟩ = (match d.en n with | some u => u != s | none => false) from by unfold enB; rfl)
  obtain ⟨b1, hb1⟩ : ∃ b1, b1 = enB d ⟨0, n, t, s⟩ := ⟨_, rfl⟩
  rw [← hb1] at HEN ⊢
  generalize (d.ab (keyT s)).getD 0 = m at *
  unfold enV at hlk
  obtain ⟨a0, a1, a2, a3, c6⟩ := hC
  generalize p.mE = ME at *
  generalize p.mA = MA at *
  have HF := Lib.hid hf
  clear hp h hf HG hb1 hs hA hn
  obtain ⟨ky, hky⟩ : ∃ ky, ky = keyT s := ⟨_, rfl⟩
  rw [← hky] at HAB HK
  clear hky
  generalize d.en n = o at *
  -- the entry is known and another one
  by_cases ho : ∃ u, o = some u ∧ u ≠ s
  · obtain ⟨u, rfl, hne⟩ := ho
    have hb : b1 = true := by rw [HEN.out]; simpa using hne
    subst hb
    have hne' : (u == s) = false := by simpa using hne
    clear HEN HAB HK
    go_enter Tryd.func28, Tryd.ntmps28
    go_wp2_with fail
    go_quiet (fail)
    have HC2 := Lib.hid (four_fr HC.out (Fr.drewN _ nq))
    have HF2 := Lib.hid (HF.out.trans (Fr.drewN _ nq))
    obtain ⟨a0, a1, a2, a3, c6⟩ := HC2.out
    clear hlk HC HF c4
    have hFq := Fr.drewN (w.alloc (.cells #[.int .i64 0, .int .i64 n, .int .i64 t, .string (S s)] 68)) nq
    generalize (w.alloc (.cells #[.int .i64 0, .int .i64 n, .int .i64 t, .string (S s)] 68)).drewN nq = w2 at *
    obtain ⟨T, hT⟩ : ∃ T, T = w.heap.size := ⟨_, rfl⟩
    rw [← hT] at HC2 a0 a1 a2 a3 ⊢
    clear hT hFq
    go_wp2_with fail
    go_quiet (fail)
    go_wp2_with fail
    go_ret
    exact ⟨rfl, HF2.out.trans (Fr.drewN _ _)⟩
  · have hb : b1 = false := by
      rw [HEN.out]
      cases o with
      | none => rfl
      | some u => exact bne_eq_false_iff_eq.2 (Classical.not_not.1 fun hne => ho ⟨u, rfl, hne⟩)
    subst hb
    rw [Bool.false_or]
    have hoc : o = none ∨ o = some s := by
      cases o with
      | none => exact .inl rfl
      | some u => exact .inr (by rw [Classical.not_not.1 fun hne => ho ⟨u, rfl, hne⟩])
    clear ho HEN
    rcases hoc with rfl | rfl
    · go_enter Tryd.func28, Tryd.ntmps28
      go_wp2_with fail
      go_quiet (fail)
      have HC2 := Lib.hid (four_fr HC.out (Fr.drewN _ nq))
      have HF2 := Lib.hid (HF.out.trans (Fr.drewN _ nq))
      obtain ⟨a0, a1, a2, a3, c6⟩ := HC2.out
      clear hlk HC HF c4
      have hFq := Fr.drewN (w.alloc (.cells #[.int .i64 0, .int .i64 n, .int .i64 t, .string (S s)] 68)) nq
      have HAB := Lib.hid (fun w' (hw : Fr ((w.alloc (.cells #[.int .i64 0, .int .i64 n, .int .i64 t, .string (S s)] 68)).drewN nq) w') => HAB.out w' (hFq.trans hw))
      generalize (w.alloc (.cells #[.int .i64 0, .int .i64 n, .int .i64 t, .string (S s)] 68)).drewN nq = w2 at *
      obtain ⟨T, hT⟩ : ∃ T, T = w.heap.size := ⟨_, rfl⟩
      rw [← hT] at HC2 a0 a1 a2 a3 ⊢
      clear hT hFq
      go_wp2_with fail
      refine wp_region_cls (D := Cls w2) (by kernel_rfl) (by kernel_rfl) (Fr.drew w2) ?_
      repeat (go_big_quiet_step (first
        | (intro hw'; with_reducible rfl)
        | (intro hw'; go_at_call 48; exact (HK.out _).mono fun e w'' ⟨he, hf⟩ => ⟨he, hw'.of hf⟩)
        | (intro hw'; have g1 := Fr.cell hw' a1; simp only [g1]; exact ⟨rfl, rfl⟩)
        | (intro hw'; have g1 := Fr.cell hw' c6; simp only [g1]; exact ⟨rfl, rfl⟩)
        | (intro hw'; have g0 := Fr.cell hw' a0; have g1 := Fr.cell hw' a1; have g2 := Fr.cell hw' a2; have g3 := Fr.cell hw' a3; simp only [g0, g1, g2, g3, Result.andThen]; exact ⟨trivial, rfl⟩)
        | (intro hw'; have g1 := HAB.out _ hw'; simp only [g1, Result.andThen]; first | exact ⟨rfl, rfl⟩ | exact ⟨trivial, rfl⟩)))
      refine wpQuiet_nil ?_
      intro w3 hw3
      go_wp2_with fail
      go_ret
      exact ⟨rfl, HF2.out.trans hw3⟩
    · have hss : (s == s) = true := by simp
      go_enter Tryd.func28, Tryd.ntmps28
      go_wp2_with fail
      go_quiet (fail)
      have HC2 := Lib.hid (four_fr HC.out (Fr.drewN _ nq))
      have HF2 := Lib.hid (HF.out.trans (Fr.drewN _ nq))
      obtain ⟨a0, a1, a2, a3, c6⟩ := HC2.out
      clear hlk HC HF c4
      have hFq := Fr.drewN (w.alloc (.cells #[.int .i64 0, .int .i64 n, .int .i64 t, .string (S s)] 68)) nq
      have HAB := Lib.hid (fun w' (hw : Fr ((w.alloc (.cells #[.int .i64 0, .int .i64 n, .int .i64 t, .string (S s)] 68)).drewN nq) w') => HAB.out w' (hFq.trans hw))
      generalize (w.alloc (.cells #[.int .i64 0, .int .i64 n, .int .i64 t, .string (S s)] 68)).drewN nq = w2 at *
      obtain ⟨T, hT⟩ : ∃ T, T = w.heap.size := ⟨_, rfl⟩
      rw [← hT] at HC2 a0 a1 a2 a3 ⊢
      clear hT hFq
      go_wp2_with fail
      go_region_held3 (fun w' => w'.cell? ⟨T, 0, none⟩ = some (.int .i64 0) ∧ w'.cell? ⟨T, 1, none⟩ = some (.int .i64 n) ∧ w'.cell? ⟨T, 2, none⟩ = some (.int .i64 t) ∧ w'.cell? ⟨T, 3, none⟩ = some (.string (S s)) ∧ w'.cell? ⟨B, 6, none⟩ = some (.map (some MA)))
        (first | exact HC3.out | exact four_fr HC2.out (Fr.drew _))
        (first
        | (go_at_call 48; refine (HK.out _).mono ?_; rintro e w3 ⟨rfl, hf3⟩
           have HC3 := Lib.hid (four_fr HC2.out ((Fr.drew _).trans hf3))
           have hlk2 := HAB.out w3 ((Fr.drew _).trans hf3)))
      all_goals go_wp2_with fail
      all_goals go_ret
      all_goals exact ⟨rfl, HF2.out.trans ((Fr.drew _).trans hf3)⟩
end
end Go.Proofs.YthppefkamklakaaDoor
