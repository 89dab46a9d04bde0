/-
  Same and Ints at equal lists; the law's small.
-/
import Derived.Test.YthibdppjhfhomaaCe
namespace Go.Proofs.Ythibdppjhfhomaa
open Go.RowKit Go.MapKept Go.Maps Go.WideMaps

set_option maxHeartbeats 400000 in
theorem same_at (b o c b' o' c' : Nat) (xs : List Txt) (w : World) (h1 : At w b o xs) (h2 : At w b' o' xs) (hn : xs.length ≤ 4611686018427387904) :
    Calls Try.prog 12 #[.slice (some ⟨b, o, none⟩) xs.length c, .slice (some ⟨b', o', none⟩) xs.length c'] w fun e w' => e = .returned (.bool true) ∧ ∃ m, w' = w.drewN m := by
  have H1 := Lib.hid h1
  have H2 := Lib.hid h2
  clear h1 h2
  go_enter Try.func12, Try.ntmps12
  go_wp2_with fail
  go_loopw [5] (fun i wr => ∃ k : Nat, k ≤ xs.length ∧ i = .int .i64 k ∧ Hid (∃ m, wr = w.drewN m)) (fun i _ => xs.length - (intOf i).toNat)
  case atStart => exact ⟨0, Nat.zero_le _, rfl, Lib.hid ⟨0, rfl⟩⟩
  case round =>
    obtain ⟨k, hk, rfl, hwr⟩ := hrel
    have hF : Fr w wr := by obtain ⟨m, rfl⟩ := hwr.out; exact Fr.drewN w m
    by_cases hlt : k < xs.length
    · have c1 := hF.cell (H1.out k hlt)
      have c2 := hF.cell (H2.out k hlt)
      generalize xs[k] = x at *
      go_wp2_with fail
      go_quiet (fail)
      have hq : ∃ m, wr.drewN nq = w.drewN m := by obtain ⟨m, rfl⟩ := hwr.out; exact ⟨m + nq, World.drewN_drewN ..⟩
      have HQ := Lib.hid hq
      generalize wr.drewN nq = w2 at *
      clear c1 c2 hwr hF hq
      go_wp2_with fail
      go_roundw
      case rel => exact ⟨k + 1, by omega, by go_num, HQ⟩
      case measure => simp [intOf]; omega
    · go_wp2_with fail
      go_ret
      exact ⟨rfl, hwr.out⟩
theorem same_nil (a a' : Option Addr) (c c' : Nat) (w : World) :
    Calls Try.prog 12 #[.slice a 0 c, .slice a' 0 c'] w fun e w' => e = .returned (.bool true) ∧ ∃ m, w' = w.drewN m := by
  go_enter Try.func12, Try.ntmps12
  go_wp2_with fail
  go_loopw [5] (fun i wr => i = .int .i64 0 ∧ wr = w) (fun _ _ => 0)
  case atStart => exact ⟨rfl, rfl⟩
  case round =>
    obtain ⟨rfl, rfl⟩ := hrel
    go_wp2_with fail
    go_ret
    exact ⟨rfl, 0, rfl⟩
theorem same_q {u v : Value} {xs : List Txt} (w : World) (h1 : Sl w u xs) (h2 : Sl w v xs) (hn : xs.length ≤ 4611686018427387904) :
    Calls Try.prog 12 #[u, v] w fun e w' => e = .returned (.bool true) ∧ ∃ m, w' = w.drewN m := by
  rcases h1.cases with ⟨rfl, a, c, rfl⟩ | ⟨b, o, c, rfl, hc⟩
  · obtain ⟨a', c', rfl⟩ := h2.len
    exact same_nil a a' c c' w
  · rcases h2.cases with ⟨rfl, a', c', rfl⟩ | ⟨b', o', c', rfl, hc'⟩
    · exact same_nil _ a' c c' w
    · exact same_at b o c b' o' c' xs w hc hc' hn
theorem same_any {u v : Value} {xs : List Txt} (w : World) (h1 : Sl w u xs) (h2 : Sl w v xs) (hn : xs.length ≤ 4611686018427387904) :
    Calls Try.prog 12 #[u, v] w fun e w' => e = .returned (.bool true) ∧ Fr w w' :=
  (same_q w h1 h2 hn).mono fun _ _ ⟨he, m, hm⟩ => ⟨he, hm ▸ Fr.drewN w m⟩

set_option maxHeartbeats 400000 in
theorem intsEq_at (b o c b' o' c' : Nat) (xs : List Int) (w : World) (h1 : ∀ (i : Nat) (h : i < xs.length), w.cell? ⟨b, o + i, none⟩ = some (.int .i64 xs[i])) (h2 : ∀ (i : Nat) (h : i < xs.length), w.cell? ⟨b', o' + i, none⟩ = some (.int .i64 xs[i])) (hn : xs.length ≤ 4611686018427387904) :
    Calls Try.prog 17 #[.slice (some ⟨b, o, none⟩) xs.length c, .slice (some ⟨b', o', none⟩) xs.length c'] w fun e w' => e = .returned (.bool true) ∧ Fr w w' := by
  have H1 := Lib.hid h1
  have H2 := Lib.hid h2
  clear h1 h2
  go_enter Try.func17, Try.ntmps17
  go_wp2_with fail
  go_loopw [5] (fun i wr => ∃ k : Nat, k ≤ xs.length ∧ i = .int .i64 k ∧ Fr w wr) (fun i _ => xs.length - (intOf i).toNat)
  case atStart => exact ⟨0, Nat.zero_le _, rfl, Fr.refl _⟩
  case round =>
    obtain ⟨k, hk, rfl, hwr⟩ := hrel
    by_cases hlt : k < xs.length
    · have c1 := hwr.cell (H1.out k hlt)
      have c2 := hwr.cell (H2.out k hlt)
      generalize xs[k] = x at *
      go_wp2_with fail
      go_quiet (fail)
      have hq := hwr.trans (Fr.drewN wr nq)
      generalize wr.drewN nq = w2 at *
      clear c1 c2 hwr
      go_wp2_with fail
      go_roundw
      case rel => exact ⟨k + 1, by omega, by go_num, hq⟩
      case measure => simp [intOf]; omega
    · go_wp2_with fail
      go_ret
      exact ⟨rfl, hwr⟩
theorem intsEq_nil (a a' : Option Addr) (c c' : Nat) (w : World) :
    Calls Try.prog 17 #[.slice a 0 c, .slice a' 0 c'] w fun e w' => e = .returned (.bool true) ∧ Fr w w' := by
  go_enter Try.func17, Try.ntmps17
  go_wp2_with fail
  go_loopw [5] (fun i wr => i = .int .i64 0 ∧ wr = w) (fun _ _ => 0)
  case atStart => exact ⟨rfl, rfl⟩
  case round =>
    obtain ⟨rfl, rfl⟩ := hrel
    go_wp2_with fail
    go_ret
    exact ⟨rfl, Fr.refl _⟩
theorem ints_any {u v : Value} {xs : List Int} (w : World) (h1 : Il w u xs) (h2 : Il w v xs) (hn : xs.length ≤ 4611686018427387904) :
    Calls Try.prog 17 #[u, v] w fun e w' => e = .returned (.bool true) ∧ Fr w w' := by
  rcases h1 with ⟨rfl, a, c, rfl⟩ | ⟨b, o, c, rfl, hc⟩
  · obtain ⟨a', c', rfl⟩ := h2.len
    exact intsEq_nil a a' c c' w
  · rcases h2 with ⟨rfl, a', c', rfl⟩ | ⟨b', o', c', rfl, hc'⟩
    · exact intsEq_nil _ a' c c' w
    · exact intsEq_at b o c b' o' c' xs w hc hc' hn

/-! ### small -/
theorem Sl.lit (w : World) (l : List Txt) (cs : Array Value) (n k : Nat) (h : cs.toList = strs l) (hn : n = w.heap.size) (hk : k = l.length) : Sl (w.alloc (.cells cs 9)) (.slice (some ⟨n, 0, none⟩) k k) l := by
  subst hn hk
  refine .inr ⟨w.heap.size, 0, l.length, rfl, .of fun i x hx => ?_, Nat.le_refl _⟩
  rw [Nat.zero_add, Lib.cell_of_heap (MapKept.heap_alloc w _).1, ← Array.getElem?_toList, h]
  exact hx
theorem Il.lit (w : World) (l : List Int) (cs : Array Value) (n k : Nat) (h : cs.toList = l.map (Value.int .i64)) (hn : n = w.heap.size) (hk : k = l.length) : Il (w.alloc (.cells cs 3)) (.slice (some ⟨n, 0, none⟩) k k) l := by
  subst hn hk
  refine .inr ⟨w.heap.size, 0, l.length, rfl, fun i hi => ?_⟩
  rw [Nat.zero_add, Lib.cell_of_heap (MapKept.heap_alloc w _).1, ← Array.getElem?_toList, h, List.getElem?_map, List.getElem?_eq_getElem hi]
  rfl

theorem ok_small {l : List Txt} (h : l.length ≤ 1000) (h' : tot l ≤ 10000000) : Ok l := ⟨by omega, by omega⟩

theorem add1 (w : World) : Calls Try.prog 10 #[.slice none 0 0, .string ⟨#[97, 98]⟩] w fun e w' => ∃ v', e = .returned (.tuple #[v', .int .i64 0, .int .i64 0]) ∧ Sl w' v' [[97, 98]] ∧ Fr w w' := by
  refine (add_any (l := []) [97, 98] w (.nil _ _ _) (ok_small (by decide) (by decide)) (by decide)).mono fun e w' ⟨v', he, hv, hf⟩ => ⟨v', he.trans ?_, ?_, hf⟩
  · kernel_rfl
  · exact hv
theorem add2 {v : Value} (w : World) (h : Sl w v [[97, 98]]) : Calls Try.prog 10 #[v, .string ⟨#[]⟩] w fun e w' => ∃ v', e = .returned (.tuple #[v', .int .i64 1, .int .i64 0]) ∧ Sl w' v' [[97, 98], []] ∧ Fr w w' := by
  refine (add_any [] w h (ok_small (by decide) (by decide)) (by decide)).mono fun e w' ⟨v', he, hv, hf⟩ => ⟨v', he.trans ?_, ?_, hf⟩
  · rfl
  · exact hv
theorem join1 {u v : Value} (w : World) (h : Sl w u [[97], [98]]) (h' : Sl w v [[99], [97]]) :
    Calls Try.prog 13 #[u, v] w fun e w' => ∃ v' u', e = .returned (.tuple #[v', u', .int .i64 0]) ∧ Sl w' v' [[97], [98], [99]] ∧ Il w' u' [2, 0] ∧ Fr w w' :=
  (join_any w h (ok_small (by decide) (by decide)) h' (ok_small (by decide) (by decide))).mono fun _ _ ⟨v', u', he, h1, h2, h3⟩ => ⟨v', u', he.trans (by rfl), h1, h2, h3⟩
theorem texts1 {u v : Value} (w : World) (h : Sl w u [[97], [98]]) (h' : Il w v [1, 0, 1]) :
    Calls Try.prog 15 #[u, v] w fun e w' => ∃ v', e = .returned (.tuple #[v', .int .i64 0]) ∧ Sl w' v' [[98], [97], [98]] ∧ Fr w w' :=
  (texts_any u v _ _ w h (ok_small (by decide) (by decide)) h' (by decide) (by decide)).mono fun _ _ ⟨v', he, h1, h2⟩ => ⟨v', he.trans (by rfl), h1, h2⟩
theorem texts2 {u v : Value} (w : World) (h : Sl w u [[97], [98]]) (h' : Il w v [2]) :
    Calls Try.prog 15 #[u, v] w fun e w' => ∃ v', e = .returned (.tuple #[v', .int .i64 4]) ∧ Fr w w' :=
  (texts_any u v _ _ w h (ok_small (by decide) (by decide)) h' (by decide) (by decide)).mono fun _ _ ⟨v', he, h1, h2⟩ => ⟨v', he.trans (by rfl), h2⟩
theorem print1 {v : Value} (w : World) (h : Sl w v [[97, 98], []]) : Calls Try.prog 22 #[v, .string ⟨#[]⟩] w fun e w' => e = .returned (.int .i64 1) ∧ Fr w w' :=
  (print_any v _ [] w h (ok_small (by decide) (by decide)) (by decide)).mono fun _ _ ⟨he, h1⟩ => ⟨he.trans (by rfl), h1⟩
theorem print2 {v : Value} (w : World) (h : Sl w v [[97, 98], []]) : Calls Try.prog 22 #[v, .string ⟨#[120]⟩] w fun e w' => e = .returned (.int .i64 (-1)) ∧ Fr w w' :=
  (print_any v _ [120] w h (ok_small (by decide) (by decide)) (by decide)).mono fun _ _ ⟨he, h1⟩ => ⟨he.trans (by rfl), h1⟩
theorem right1 {v : Value} (w : World) (h : Sl w v [[97, 98], []]) : Calls Try.prog 20 #[v] w fun e w' => e = .returned (.bool true) ∧ Fr w w' :=
  right_good w h (ok_small (by decide) (by decide)) ⟨by decide, by decide⟩
theorem right2 {v : Value} (w : World) (h : Sl w v [[97], [97]]) : Calls Try.prog 20 #[v] w fun e w' => e = .returned (.bool false) ∧ Fr w w' :=
  right_bad w h (ok_small (by decide) (by decide)) (fun h => absurd h.1 (by decide))

set_option maxHeartbeats 4000000 in
set_option maxRecDepth 100000 in
theorem small_any (w : World) : Calls Try.prog 8 #[] w fun e w' => e = .returned (.bool true) ∧ Fr w w' := by
  go_enter Try.func8, Try.ntmps8
  go_upto_region 2 with (go_at_call 10; refine (add1 _).mono ?_; rintro e w1 ⟨va, rfl, ha, hf1⟩)
  have HA := Lib.hid ha
  have HF1 := Lib.hid hf1
  clear ha hf1
  go_upto_region 3 with (go_at_call 10; refine (add2 _ HA.out).mono ?_; rintro e w2 ⟨vb, rfl, hb, hf2⟩)
  have HB := Lib.hid hb
  have HF2 := Lib.hid (HF1.out.trans hf2)
  clear hb hf2 HF1 HA
  go_upto_region 4 with (go_at_call 13; refine (join1 _ ((Sl.lit w2 [[97], [98]] _ _ 2 rfl rfl rfl).fr (Fr.alloc _ _)) (Sl.lit _ [[99], [97]] _ _ 2 rfl (by simp) rfl)).mono ?_; rintro e w3 ⟨vj, vp, rfl, hj, hp, hf3⟩)
  have hf3' := (Fr.alloc w2 _).trans ((Fr.alloc _ _).trans hf3)
  have HB3 := Lib.hid (HB.out.fr hf3')
  have HJ3 := Lib.hid hj
  have HP3 := Lib.hid hp
  have HF3 := Lib.hid (HF2.out.trans hf3')
  clear hj hp hf3 hf3' HF2 HB
  go_upto_region 5 with (go_at_call 15; refine (texts1 _ ((Sl.lit w3 [[97], [98]] _ _ 2 rfl rfl rfl).fr (Fr.alloc _ _)) (Il.lit _ [1, 0, 1] _ _ 3 rfl (by simp) rfl)).mono ?_; rintro e w4 ⟨vt, rfl, ht, hf4⟩)
  have hf4' := (Fr.alloc w3 _).trans ((Fr.alloc _ _).trans hf4)
  have HB4 := Lib.hid (HB3.out.fr hf4')
  have HJ4 := Lib.hid (HJ3.out.fr hf4')
  have HP4 := Lib.hid (HP3.out.fr hf4')
  have HT4 := Lib.hid ht
  have HF4 := Lib.hid (HF3.out.trans hf4')
  clear ht hf4 hf4' HF3 HB3 HJ3 HP3
  go_upto_region 6 with (go_at_call 15; refine (texts2 _ ((Sl.lit w4 [[97], [98]] _ _ 2 rfl rfl rfl).fr (Fr.alloc _ _)) (Il.lit _ [2] _ _ 1 rfl (by simp) rfl)).mono ?_; rintro e w5 ⟨vn, rfl, hf5⟩)
  have hf5' := (Fr.alloc w4 _).trans ((Fr.alloc _ _).trans hf5)
  have HB5 := Lib.hid (HB4.out.fr hf5')
  have HJ5 := Lib.hid (HJ4.out.fr hf5')
  have HP5 := Lib.hid (HP4.out.fr hf5')
  have HT5 := Lib.hid (HT4.out.fr hf5')
  have HF5 := Lib.hid (HF4.out.trans hf5')
  clear hf5 hf5' HF4 HB4 HJ4 HP4 HT4
  go_upto_region 8 with (first
    | (go_at_call 12; refine (same_any _ ((HT5.out.fr HF8.out).fr (Fr.alloc _ _)) (Sl.lit w8 [[98], [97], [98]] _ _ 3 rfl (by simp) rfl) (by decide)).mono ?_; rintro e w9 ⟨rfl, hf9⟩; have HF9 := Lib.hid (HF8.out.trans ((Fr.alloc w8 _).trans hf9)))
    | (go_at_call 17; refine (ints_any _ ((HP5.out.fr HF7.out).fr (Fr.alloc _ _)) (Il.lit w7 [2, 0] _ _ 2 rfl (by simp) rfl) (by decide)).mono ?_; rintro e w8 ⟨rfl, hf8⟩; have HF8 := Lib.hid (HF7.out.trans ((Fr.alloc w7 _).trans hf8)))
    | (go_at_call 12; refine (same_any _ ((HJ5.out.fr HF6.out).fr (Fr.alloc _ _)) (Sl.lit w6 [[97], [98], [99]] _ _ 3 rfl (by simp) rfl) (by decide)).mono ?_; rintro e w7 ⟨rfl, hf7⟩; have HF7 := Lib.hid (HF6.out.trans ((Fr.alloc w6 _).trans hf7)))
    | (go_at_call 12; refine (same_any _ (HB5.out.fr (Fr.alloc _ _)) (Sl.lit w5 [[97, 98], []] _ _ 2 rfl (by simp) rfl) (by decide)).mono ?_; rintro e w6 ⟨rfl, hf6⟩; have HF6 := Lib.hid ((Fr.alloc w5 _).trans hf6)))
  have HB9 := Lib.hid (HB5.out.fr HF9.out)
  have HFF := Lib.hid (HF5.out.trans HF9.out)
  clear hf6 hf7 hf8 hf9 HF6 HF7 HF8 HF9 HB5 HJ5 HP5 HT5 HF5
  go_wp2_with (first
    | (go_at_call 20; refine (right2 _ (Sl.lit w12 [[97], [97]] _ _ 2 rfl (by simp) rfl)).mono ?_; rintro e w13 ⟨rfl, hf13⟩)
    | (go_at_call 20; refine (right1 _ ((HB9.out.fr hf10).fr hf11)).mono ?_; rintro e w12 ⟨rfl, hf12⟩)
    | (go_at_call 22; refine (print2 _ (HB9.out.fr hf10)).mono ?_; rintro e w11 ⟨rfl, hf11⟩)
    | (go_at_call 22; refine (print1 _ HB9.out).mono ?_; rintro e w10 ⟨rfl, hf10⟩))
  go_ret
  exact ⟨rfl, HFF.out.trans (hf10.trans (hf11.trans (hf12.trans ((Fr.alloc w12 _).trans hf13))))⟩
end Go.Proofs.Ythibdppjhfhomaa
