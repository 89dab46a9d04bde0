/-
  BookSays: the walk.
-/
import Derived.Test.YtailbappdfbjoaaDoorBq
namespace Go.Proofs.YtailbappdfbjoaaDoor
open Go.RowKit Go.MapKept Go.Maps Go.WideMaps

theorem text_x {W w : World} {B R : Nat} {E : List Txt} {q : List Sd} {U : Thing} (h : Has W w ((BookT B R (sE E) q).sep U)) (n : Nat) (hE : Kept E) (x : Txt) (hx : E[n]? = some x) :
    Calls Tryd.prog 15 #[.pointer (some ⟨B, 0, none⟩), .int .i64 n] w fun e w' => e = .returned (.tuple #[.string (S x), .bool true]) ∧ Fr w w' := by
  obtain ⟨hn, rfl⟩ := List.getElem?_eq_some_iff.1 hx
  exact text_says h n hE hn
theorem entry_x {W w : World} {B R : Nat} {E : List Txt} {q : List Sd} {U : Thing} (h : Has W w ((BookT B R (sE E) q).sep U)) (hT : Tab W) (n : Nat) (hE : Kept E) (hq : q.length ≤ 1000000) (x : Txt) (hx : E[n]? = some x) :
    Calls Tryd.prog 28 #[.pointer (some ⟨B, 0, none⟩), .int .i64 n] w fun e w' => ∃ (m : Int) (q' : List Sd), e = .returned (.tuple #[.agg #[.int .i64 0, .string (S (textR ⟨0, n, 0, x⟩)), .int .i64 m], .int .i64 0]) ∧ Has W w' ((BookT B R (sE E) q').sep U) ∧ q'.length ≤ q.length + 1 ∧
      signR q' (0, textR ⟨0, n, 0, x⟩) = (0, textR ⟨0, n, 0, x⟩, m) ∧ signL q' (0, textR ⟨0, n, 0, x⟩) = q' := by
  obtain ⟨hn, rfl⟩ := List.getElem?_eq_some_iff.1 hx
  exact entry_says h hT n hE hq hn
theorem again_x {W w : World} {B R : Nat} {E : List Txt} {q : List Sd} {U : Thing} (h : Has W w ((BookT B R (sE E) q).sep U)) (hT : Tab W) (n : Nat) (hE : Kept E) (hq : q.length ≤ 1000000) (x : Txt) (hx : E[n]? = some x) (m : Int)
    (h1 : signR q (0, textR ⟨0, n, 0, x⟩) = (0, textR ⟨0, n, 0, x⟩, m)) (h2 : signL q (0, textR ⟨0, n, 0, x⟩) = q) :
    Calls Tryd.prog 28 #[.pointer (some ⟨B, 0, none⟩), .int .i64 n] w fun e w' => e = .returned (.tuple #[.agg #[.int .i64 0, .string (S (textR ⟨0, n, 0, x⟩)), .int .i64 m], .int .i64 0]) ∧ Has W w' ((BookT B R (sE E) q).sep U) := by
  obtain ⟨hn, rfl⟩ := List.getElem?_eq_some_iff.1 hx
  exact entry_again h hT n hE hq hn m h1 h2
theorem take_mem {E : List Txt} {k : Nat} {x kx : Txt} (hx : E[k]? = some x) : (kx ∈ (ks E).take (k + 1)) ↔ (kx ∈ (ks E).take k ∨ keyT x = kx) := by
  obtain ⟨hn, rfl⟩ := List.getElem?_eq_some_iff.1 hx
  have hl : k < (ks E).length := by rw [ks_len]; exact hn
  have hg : (ks E)[k] = keyT E[k] := Option.some.inj ((List.getElem?_eq_getElem hl).symm.trans (ks_get hn))
  rw [List.take_succ_eq_append_getElem hl, List.mem_append, List.mem_singleton, hg]
  exact or_congr Iff.rfl eq_comm
set_option maxHeartbeats 1000000 in
set_option maxRecDepth 100000 in
theorem says_not (ad : Option Addr) (c : Nat) (l : List Txt) (kx : Txt) (w : World) (hT : Tab w) (hf : ¬ (l.length ≤ 25 ∧ kx.length ≤ 300)) :
    Calls Tryd.prog 5 #[.slice ad l.length c, .string (S kx)] w fun e w' => e = .returned (.bool true) ∧ Fr w w' := by
  have HT := Lib.hid hT
  by_cases h1 : l.length ≤ 25
  · have h2 : ¬ (kx.length ≤ 300) := fun h => hf ⟨h1, h⟩
    clear hT hf
    go_enter Tryd.func5, Tryd.ntmps5
    go_wp2_with (go_at_call 7; refine (small_any _ HT.out).mono ?_; rintro e w1 ⟨rfl, hf1⟩)
    go_ret
    exact ⟨rfl, hf1⟩
  · clear hT hf
    go_enter Tryd.func5, Tryd.ntmps5
    go_wp2_with (go_at_call 7; refine (small_any _ HT.out).mono ?_; rintro e w1 ⟨rfl, hf1⟩)
    go_ret
    exact ⟨rfl, hf1⟩
set_option maxHeartbeats 4000000 in
set_option maxRecDepth 100000 in
theorem says_yes (ad : Option Addr) (c : Nat) (l : List Txt) (kx : Txt) (w : World) (hT : Tab w) (h : SSl w (.slice ad l.length c) l) (ha : SArg l) (hl25 : l.length ≤ 25) (hkx : kx.length ≤ 300) :
    Calls Tryd.prog 5 #[.slice ad l.length c, .string (S kx)] w fun e w' => e = .returned (.bool true) ∧ Fr w w' := by
  obtain ⟨i0, hi, hz0, hz1, hz2⟩ := info_parts infoStr
  have HIN := Lib.hid hi
  have H := Lib.hid h
  have HA := Lib.hid ha
  have HT := Lib.hid hT
  clear h ha hT hi
  go_enter Tryd.func5, Tryd.ntmps5
  go_upto_region 10 with (first
    | (go_at_call 7; refine (small_any _ HT.out).mono ?_; rintro e w1 ⟨rfl, hf1⟩; have H1 := Lib.hid ((Has.here w).fr hf1))
    | (go_at_call 9; refine (Has.ring H1.out).mono ?_; rintro e w3 ⟨R, rfl, h3⟩; have H3 := Lib.hid h3; clear h3)
    | (go_at_call 11; refine (bnew_yes H3.out 0 (by decide)).mono ?_; rintro e w5 ⟨B, rfl, h5⟩; have H5 := Lib.hid h5; clear h5))
  clear H3 H1 hf1
  have H6 : Hid (Has w w5 ((BookT B R (sE (kp l 0)) []).sep ((RowT 9 1 (.slice none 0 0) (kp l 0).length (strs (kp l 0))).sep .emp))) := Lib.hid ((H5.out.nilRow 9 1).turn)
  clear H5
  have hkL := HA.out.1
  go_wp2_with fail
  go_loopw [9, 10] (fun a9 i wr => ∃ k : Nat, k ≤ l.length ∧ i = .int .i64 k ∧ ∃ b d n, a9 = .slice b n d ∧ n ≤ k ∧ Hid (n = (kp l k).length ∧ Has w wr ((BookT B R (sE (kp l k)) []).sep ((RowT 9 1 (.slice b n d) n (strs (kp l k))).sep .emp))) ∧ Hid (∀ (j : Nat) (h : j < k) (h' : j < l.length), l[j].length ≤ 300)) (fun _ i _ => l.length - (intOf i).toNat)
  case atStart => exact ⟨0, Nat.zero_le _, rfl, none, 0, 0, rfl, Nat.le_refl _, Lib.hid ⟨rfl, H6.out⟩, Lib.hid (fun j h => by omega)⟩
  case round =>
    obtain ⟨k, hk, rfl, b, d, n, rfl, hnk, hR, hS⟩ := hrel
    clear H6
    by_cases hlt : k < l.length
    · obtain ⟨Bl, o, c', hv, hc⟩ := H.out.get (by omega)
      obtain ⟨rfl, rfl⟩ : ad = some ⟨Bl, o, none⟩ ∧ c = c' := by simpa using hv
      have HC := Lib.hid (hc k hlt)
      have c0 := hR.out.2.toFr.cell HC.out
      have HLK := Lib.hid (HA.out.2 _ (List.getElem_mem hlt))
      by_cases h300 : l[k].length ≤ 300
      · have HS1 := Lib.hid (show ∀ (j : Nat) (h : j < k + 1) (h' : j < l.length), l[j].length ≤ 300 from fun j h h' => by
          rcases Nat.lt_or_ge j k with hj | hj
          · exact hS.out j hj h'
          · obtain rfl : j = k := by omega
            exact h300)
        have HKS := Lib.hid (kp_succ hlt)
        have HKN := Lib.hid (kp_len l k)
        clear hc hv hS
        generalize l[k] = x at *
        cases hkey : key x with
        | none =>
          have HKEY := Lib.hid hkey
          have HKP : Hid (kp l (k + 1) = kp l k) := Lib.hid (by rw [HKS.out, hkey]; rfl)
          clear hkey HKS
          generalize kp l k = E at *
          go_upto_region 18 with (first
            | (go_at_call 25; refine (keyCall_none HKEY.out _ HLK.out).mono ?_; rintro e w6 ⟨rfl, hf6⟩; have H6 := Lib.hid (hR.out.2.fr hf6); have c0 := hf6.cell c0)
            | (go_at_call 26; refine (bappend_none H6.out x HLK.out HKEY.out).mono ?_; rintro e w7 ⟨rfl, hf7⟩; have H7 := Lib.hid (H6.out.fr hf7)))
          clear c0 H6
          go_wp2_with fail
          have HRN : Hid (n = (kp l (k + 1)).length ∧ Has w w7 ((BookT B R (sE (kp l (k + 1))) []).sep ((RowT 9 1 (.slice b n d) n (strs (kp l (k + 1)))).sep .emp))) := Lib.hid (by rw [HKP.out]; exact ⟨hR.out.1, H7.out⟩)
          go_roundw
          case rel => exact ⟨k + 1, by omega, by go_num, b, d, n, rfl, by omega, HRN, HS1⟩
          case measure => simp [intOf]; omega
        | some y =>
          have HKEY := Lib.hid hkey
          have HKP : Hid (kp l (k + 1) = kp l k ++ [x]) := Lib.hid (by rw [HKS.out, hkey]; rfl)
          clear hkey HKS
          have hE : n = (kp l k).length := hR.out.1
          have HEE := Lib.hid hE
          clear hE
          generalize kp l k = E at *
          have H5 := Lib.hid hR.out.2
          go_upto_region 18 with (first
            | (go_at_call 25; refine (keyCall_some HKEY.out _ HLK.out).mono ?_; rintro e w6 ⟨rfl, hf6⟩; have H6 := Lib.hid (hR.out.2.fr hf6); have c0 := hf6.cell c0)
            | (go_at_call 26; refine (bappend H6.out x HLK.out (by show E.length ≤ _; have := HEE.out; omega)).mono ?_
               obtain ⟨h1, h2, h3⟩ := ap_yes (s := sE E) HKEY.out (show x.length ≤ 20000 by omega)
               rw [h1, h2, h3, show ((sE E).es.length : Int) = (n : Int) from by rw [HEE.out]; rfl]
               clear h1 h2 h3
               rintro e w7 ⟨rfl, h7⟩
               have H7 := Lib.hid h7.turn
               clear h7))
          have c1 := H7.out.toFr.cell HC.out
          clear c0 H6 H5
          go_wp2_with (at_builtin; refine wpList_app rfl _ _ 46 rfl 9 i0 (.string (S [])) 1 16 Tryd.underlying46 HIN.out hz0 hz1 hz2 rfl (by decide) rfl H7.out 1 1 [.string (S x)] rfl rfl (by simp [Value.oneCell']) (by decide) (by omega) (by decide) ?_; intro g1 cap1 w10 h10; have H10 := Lib.hid h10; clear h10)
          have HRN : Hid (n + 1 = (kp l (k + 1)).length ∧ Has w w10 ((BookT B R (sE (kp l (k + 1))) []).sep ((RowT 9 1 (.slice (some ⟨g1, 0, none⟩) (n + 1) cap1) (n + 1) (strs (kp l (k + 1)))).sep .emp))) := Lib.hid (by
            rw [HKP.out, strs_app, List.length_append]
            exact ⟨by rw [HEE.out]; rfl, H10.out.turn⟩)
          go_roundw
          case rel => exact ⟨k + 1, by omega, by go_num, some ⟨g1, 0, none⟩, cap1, n + 1, rfl, by omega, HRN, HS1⟩
          case measure => simp [intOf]; omega
      · clear hc hv hS
        generalize l[k] = x at *
        go_wp2_with fail
        go_ret
        exact ⟨rfl, hR.out.2.toFr⟩
    · obtain rfl : k = l.length := by omega
      have HE : Hid (Kept (kp l l.length)) := Lib.hid (kp_kept hl25 fun t ht => by
        obtain ⟨j, hj, rfl⟩ := List.getElem_of_mem ht
        exact hS.out j hj hj)
      have hEn := hR.out.1
      have HR := Lib.hid hR.out.2
      clear hS hR hlt hk
      generalize kp l l.length = E at *
      subst hEn
      have hEl : E.length ≤ 25 := HE.out.1
      have H0 : Hid (∃ q : List Sd, q.length ≤ 2 * 0 ∧ Has w wr ((BookT B R (sE E) q).sep ((RowT 9 1 (.slice b E.length d) E.length (strs E)).sep .emp))) := Lib.hid ⟨[], Nat.le_refl _, HR.out⟩
      have HT0 : Hid ((Value.bool false) = .bool (decide (kx ∈ (ks E).take 0))) := Lib.hid (by rw [List.take_zero]; rfl)
      clear HR
      go_wp2_with fail
      go_loopw [15, 16] (fun a15 i wr => ∃ k : Nat, k ≤ E.length ∧ i = .int .i64 k ∧ ∃ t : Bool, a15 = .bool t ∧ Hid (t = decide (kx ∈ (ks E).take k)) ∧ Hid (∃ q : List Sd, q.length ≤ 2 * k ∧ Has w wr ((BookT B R (sE E) q).sep ((RowT 9 1 (.slice b E.length d) E.length (strs E)).sep .emp)))) (fun _ i _ => E.length + 1 - (intOf i).toNat)
      case atStart => exact ⟨0, Nat.zero_le _, rfl, false, rfl, Lib.hid (by rw [List.take_zero]; rfl), H0⟩
      case round =>
      obtain ⟨k, hk, rfl, t, rfl, hTT, hRR⟩ := hrel
      clear H0 HT0
      obtain ⟨q, hql, hR0⟩ := hRR.out
      have HQ := Lib.hid hql
      have hR := Lib.hid hR0
      clear hRR hR0 hql
      by_cases hm : kx ∈ (ks E).take k
      · have HM := Lib.hid hm
        obtain rfl : t = true := by rw [hTT.out]; exact decide_eq_true hm
        clear hm hTT
        go_upto_region 27 with (go_at_call 27; refine (absent_there hR.out HT.out kx k HE.out (by have := HQ.out; omega) hk hkx HM.out).mono ?_; rintro e w11 ⟨rfl, h11⟩; have H11 := Lib.hid h11; clear h11)
        have H12 := Lib.hid (H11.out.fr (Fr.alloc w11 (.cells #[.int .i64 0, .string (S []), .int .i64 0] 37)))
        have a1 : (w11.alloc (.cells #[.int .i64 0, .string (S []), .int .i64 0] 37)).cell? ⟨w11.heap.size, 1, none⟩ = some (.string (S [])) := cellOf (heap_alloc_new _ _) rfl
        go_upto_region 30 with (go_at_call 22; refine (read_empty _).mono ?_; rintro e w12 ⟨rfl, hf12⟩; have H13 := Lib.hid (H12.out.fr hf12); clear hf12)
        have HB := Lib.hid (H13.out.fr (Fr.alloc w12 (.cells #[.int .i64 0, .int .i64 0, .int .i64 0, .string (S [])] 58)))
        have HQ1 := Lib.hid (show q.length ≤ 2 * k + 1 by have := HQ.out; omega)
        generalize w12.alloc (.cells #[.int .i64 0, .int .i64 0, .int .i64 0, .string (S [])] 58) = wa at *
        clear H13 H12 H11 hR a1
        by_cases hkn : k = E.length
        · subst hkn
          go_wp2_with (first
            | (go_at_call 28; refine (entry_end HB.out HT.out HE.out (by have := HQ1.out; omega)).mono ?_; rintro e w20 ⟨rfl, h20⟩; have H20 := Lib.hid (h20.fr (Fr.alloc w20 (.cells #[.int .i64 0, .string ⟨#[]⟩, .int .i64 0] 37))); clear h20)
            | (go_at_call 27; refine (absent_end H20.out HT.out kx HE.out (by have := HQ1.out; omega) _ (by go_num)).mono ?_; rintro e w21 ⟨rfl, h21⟩; have H21 := Lib.hid (h21.fr (Fr.alloc w21 (.cells #[.int .i64 0, .string ⟨#[]⟩, .int .i64 0] 37))); clear h21)
            | (go_at_call 17; refine (blen H21.out).mono ?_; rintro e w22 ⟨rfl, rfl⟩))
          go_ret
          exact ⟨rfl, H21.out.toFr⟩
        · have hkl : k < E.length := by omega
          have hkx1 : ¬ ((k : Int) = (E.length : Int)) := by omega
          obtain ⟨x, hx⟩ : ∃ x, E[k]? = some x := ⟨E[k], List.getElem?_eq_getElem hkl⟩
          have hxm := HE.out.2 x (List.mem_of_getElem? hx)
          have HXX := Lib.hid hx
          obtain ⟨y, hy⟩ := Option.isSome_iff_exists.1 hxm.2
          have HY := Lib.hid hy
          have HXL := Lib.hid hxm.1
          have HOKE := Lib.hid (okEnt (show k ≤ 25 by omega) hxm.1 hxm.2)
          have HTM := Lib.hid (take_mem (kx := kx) hx)
          have HYT := Lib.hid (keyT_of hy)
          clear hx hxm hy hkn
          go_upto_region 33 with (first
            | (go_at_call 15; refine (text_x HB.out k HE.out x HXX.out).mono ?_; rintro e w13 ⟨rfl, hf13⟩; have H13 := Lib.hid (HB.out.fr hf13); clear hf13)
            | (go_at_call 28; refine (entry_x H13.out HT.out k HE.out (by have := HQ1.out; omega) x HXX.out).mono ?_; rintro e w14 ⟨m1, q2, rfl, h14, hq2, hg1, hg2⟩; have H14 := Lib.hid h14; have HQ2 := Lib.hid hq2; have HG1 := Lib.hid hg1; have HG2 := Lib.hid hg2; clear h14 hq2 hg1 hg2))
          have H15 := Lib.hid ((H14.out.box 37 #[.int .i64 0, .string (S (textR ⟨0, k, 0, x⟩)), .int .i64 m1]).turn)
          obtain ⟨X, hX⟩ : ∃ X, X = w14.heap.size := ⟨_, rfl⟩
          rw [← hX] at H15 ⊢
          generalize w14.alloc (.cells #[.int .i64 0, .string (S (textR ⟨0, k, 0, x⟩)), .int .i64 m1] 37) = w15 at *
          clear hX H14 H13 HB
          go_upto_region 34 with (go_at_call 28; refine (again_x H15.out HT.out k HE.out (by have := HQ1.out; have := HQ2.out; omega) x HXX.out m1 HG1.out HG2.out).mono ?_; rintro e w16 ⟨rfl, h16⟩; have H16 := Lib.hid h16; clear h16)
          have H17 := Lib.hid ((H16.out.box 37 #[.int .i64 0, .string (S (textR ⟨0, k, 0, x⟩)), .int .i64 m1]).turn)
          obtain ⟨Y, hY⟩ : ∃ Y, Y = w16.heap.size := ⟨_, rfl⟩
          rw [← hY] at H17 ⊢
          generalize w16.alloc (.cells #[.int .i64 0, .string (S (textR ⟨0, k, 0, x⟩)), .int .i64 m1] 37) = w17 at *
          clear hY H16 H15
          have x1 : w17.cell? ⟨X, 1, none⟩ = some (.string (S (textR ⟨0, k, 0, x⟩))) := cellOf H17.out.right.right.boxed rfl
          go_upto_region 35 with (go_at_call 22; refine (read_says ⟨0, k, 0, x⟩ HOKE.out _).mono ?_; rintro e w18 ⟨rfl, hf18⟩; have H18 := Lib.hid (H17.out.fr hf18); clear hf18)
          have H19 := Lib.hid ((H18.out.box 58 #[.int .i64 0, .int .i64 k, .int .i64 0, .string (S x)]).turn)
          obtain ⟨Z, hZ⟩ : ∃ Z, Z = w18.heap.size := ⟨_, rfl⟩
          rw [← hZ] at H19 ⊢
          generalize w18.alloc (.cells #[.int .i64 0, .int .i64 k, .int .i64 0, .string (S x)] 58) = w19 at *
          clear hZ H18 H17 x1
          have hbZ := H19.out.right.boxed
          have hbY := H19.out.right.right.boxed
          have hbX := H19.out.right.right.right.boxed
          obtain ⟨gg, cg, hvg, hcg⟩ := str_row H19.out.right.right.right.right.row rfl (by omega)
          obtain ⟨rfl, rfl⟩ : b = some ⟨gg, 0, none⟩ ∧ d = cg := by simpa using hvg
          have k9 := hcg k hkl
          rw [(List.getElem?_eq_some_iff.1 HXX.out).2] at k9
          have x0 : w19.cell? ⟨X, 0, none⟩ = some (.int .i64 0) := cellOf hbX rfl
          have x1 : w19.cell? ⟨X, 1, none⟩ = some (.string (S (textR ⟨0, k, 0, x⟩))) := cellOf hbX rfl
          have x2 : w19.cell? ⟨X, 2, none⟩ = some (.int .i64 m1) := cellOf hbX rfl
          have y0 : w19.cell? ⟨Y, 0, none⟩ = some (.int .i64 0) := cellOf hbY rfl
          have y1 : w19.cell? ⟨Y, 1, none⟩ = some (.string (S (textR ⟨0, k, 0, x⟩))) := cellOf hbY rfl
          have y2 : w19.cell? ⟨Y, 2, none⟩ = some (.int .i64 m1) := cellOf hbY rfl
          have z0 : w19.cell? ⟨Z, 0, none⟩ = some (.int .i64 0) := cellOf hbZ rfl
          have z1 : w19.cell? ⟨Z, 1, none⟩ = some (.int .i64 k) := cellOf hbZ rfl
          have z3 : w19.cell? ⟨Z, 3, none⟩ = some (.string (S x)) := cellOf hbZ rfl
          clear hbX hbY hbZ hvg hcg
          go_quiet (fail)
          have H20 := Lib.hid (H19.out.fr (Fr.drewN w19 nq))
          have k9 := (Fr.drewN w19 nq).cell k9
          generalize w19.drewN nq = w20 at *
          clear H19 x0 x1 x2 y0 y1 y2 z0 z1 z3
          go_upto_region 38 with (go_at_call 25; refine (keyCall_some HY.out _ (by have := HXL.out; omega)).mono ?_; rintro e w21 ⟨rfl, hf21⟩; have H21 := Lib.hid (H20.out.fr hf21); clear hf21)
          clear k9 H20
          have HR1 : Hid (∃ q : List Sd, q.length ≤ 2 * (k + 1) ∧ Has w w21 ((BookT B R (sE E) q).sep ((RowT 9 1 (.slice (some ⟨gg, 0, none⟩) E.length d) E.length (strs E)).sep .emp))) := Lib.hid ⟨q2, by have := HQ1.out; have := HQ2.out; omega, by
            exact H21.out.turn.right.turn.right.turn.right⟩
          have HT1 : Hid (true = decide (kx ∈ (ks E).take (k + 1))) := Lib.hid (decide_eq_true (HTM.out.2 (.inl HM.out))).symm
          clear H21
          go_wp2_with fail
          go_roundw
          case rel => exact ⟨k + 1, by omega, by go_num, true, rfl, HT1, HR1⟩
          case measure => simp [intOf]; omega
      · have HM := Lib.hid hm
        obtain rfl : t = false := by rw [hTT.out]; exact decide_eq_false hm
        clear hm hTT
        have HOKA := Lib.hid (okAbs (show k ≤ 25 by omega) hkx)
        go_upto_region 27 with (go_at_call 27; refine (absent_not hR.out HT.out kx k HE.out (by have := HQ.out; omega) hk hkx HM.out).mono ?_; rintro e w11 ⟨m0, q1, rfl, h11, hq1⟩; have H11 := Lib.hid h11; have HQ1 := Lib.hid (show q1.length ≤ 2 * k + 1 by have := HQ.out; omega); clear h11 hq1)
        have H12 := Lib.hid (H11.out.fr (Fr.alloc w11 (.cells #[.int .i64 0, .string (S (textR ⟨2, k, 0, kx⟩)), .int .i64 m0] 37)))
        have a1 : (w11.alloc (.cells #[.int .i64 0, .string (S (textR ⟨2, k, 0, kx⟩)), .int .i64 m0] 37)).cell? ⟨w11.heap.size, 1, none⟩ = some (.string (S (textR ⟨2, k, 0, kx⟩))) := cellOf (heap_alloc_new _ _) rfl
        go_upto_region 28 with (go_at_call 22; refine (read_says ⟨2, k, 0, kx⟩ HOKA.out _).mono ?_; rintro e w12 ⟨rfl, hf12⟩; have H13 := Lib.hid (H12.out.fr hf12); clear hf12)
        have hbx := heap_alloc_new w12 (.cells #[.int .i64 2, .int .i64 k, .int .i64 0, .string (S kx)] 58)
        have HB := Lib.hid (H13.out.fr (Fr.alloc w12 (.cells #[.int .i64 2, .int .i64 k, .int .i64 0, .string (S kx)] 58)))
        obtain ⟨A, hA⟩ : ∃ A, A = w12.heap.size := ⟨_, rfl⟩
        rw [← hA] at hbx ⊢
        generalize w12.alloc (.cells #[.int .i64 2, .int .i64 k, .int .i64 0, .string (S kx)] 58) = wa at *
        have a0 : wa.cell? ⟨A, 0, none⟩ = some (.int .i64 2) := cellOf hbx rfl
        have a2 : wa.cell? ⟨A, 1, none⟩ = some (.int .i64 k) := cellOf hbx rfl
        have a3 : wa.cell? ⟨A, 3, none⟩ = some (.string (S kx)) := cellOf hbx rfl
        clear H13 H12 H11 hR a1 hbx hA
        go_upto_region 30 with fail
        clear a0 a2 a3
        by_cases hkn : k = E.length
        · subst hkn
          go_wp2_with (first
            | (go_at_call 28; refine (entry_end HB.out HT.out HE.out (by have := HQ1.out; omega)).mono ?_; rintro e w20 ⟨rfl, h20⟩; have H20 := Lib.hid (h20.fr (Fr.alloc w20 (.cells #[.int .i64 0, .string ⟨#[]⟩, .int .i64 0] 37))); clear h20)
            | (go_at_call 27; refine (absent_end H20.out HT.out kx HE.out (by have := HQ1.out; omega) _ (by go_num)).mono ?_; rintro e w21 ⟨rfl, h21⟩; have H21 := Lib.hid (h21.fr (Fr.alloc w21 (.cells #[.int .i64 0, .string ⟨#[]⟩, .int .i64 0] 37))); clear h21)
            | (go_at_call 17; refine (blen H21.out).mono ?_; rintro e w22 ⟨rfl, rfl⟩))
          go_ret
          exact ⟨rfl, H21.out.toFr⟩
        · have hkl : k < E.length := by omega
          have hkx1 : ¬ ((k : Int) = (E.length : Int)) := by omega
          obtain ⟨x, hx⟩ : ∃ x, E[k]? = some x := ⟨E[k], List.getElem?_eq_getElem hkl⟩
          have hxm := HE.out.2 x (List.mem_of_getElem? hx)
          have HXX := Lib.hid hx
          obtain ⟨y, hy⟩ := Option.isSome_iff_exists.1 hxm.2
          have HY := Lib.hid hy
          have HXL := Lib.hid hxm.1
          have HOKE := Lib.hid (okEnt (show k ≤ 25 by omega) hxm.1 hxm.2)
          have HTM := Lib.hid (take_mem (kx := kx) hx)
          have HYT := Lib.hid (keyT_of hy)
          clear hx hxm hy hkn
          go_upto_region 33 with (first
            | (go_at_call 15; refine (text_x HB.out k HE.out x HXX.out).mono ?_; rintro e w13 ⟨rfl, hf13⟩; have H13 := Lib.hid (HB.out.fr hf13); clear hf13)
            | (go_at_call 28; refine (entry_x H13.out HT.out k HE.out (by have := HQ1.out; omega) x HXX.out).mono ?_; rintro e w14 ⟨m1, q2, rfl, h14, hq2, hg1, hg2⟩; have H14 := Lib.hid h14; have HQ2 := Lib.hid hq2; have HG1 := Lib.hid hg1; have HG2 := Lib.hid hg2; clear h14 hq2 hg1 hg2))
          have H15 := Lib.hid ((H14.out.box 37 #[.int .i64 0, .string (S (textR ⟨0, k, 0, x⟩)), .int .i64 m1]).turn)
          obtain ⟨X, hX⟩ : ∃ X, X = w14.heap.size := ⟨_, rfl⟩
          rw [← hX] at H15 ⊢
          generalize w14.alloc (.cells #[.int .i64 0, .string (S (textR ⟨0, k, 0, x⟩)), .int .i64 m1] 37) = w15 at *
          clear hX H14 H13 HB
          go_upto_region 34 with (go_at_call 28; refine (again_x H15.out HT.out k HE.out (by have := HQ1.out; have := HQ2.out; omega) x HXX.out m1 HG1.out HG2.out).mono ?_; rintro e w16 ⟨rfl, h16⟩; have H16 := Lib.hid h16; clear h16)
          have H17 := Lib.hid ((H16.out.box 37 #[.int .i64 0, .string (S (textR ⟨0, k, 0, x⟩)), .int .i64 m1]).turn)
          obtain ⟨Y, hY⟩ : ∃ Y, Y = w16.heap.size := ⟨_, rfl⟩
          rw [← hY] at H17 ⊢
          generalize w16.alloc (.cells #[.int .i64 0, .string (S (textR ⟨0, k, 0, x⟩)), .int .i64 m1] 37) = w17 at *
          clear hY H16 H15
          have x1 : w17.cell? ⟨X, 1, none⟩ = some (.string (S (textR ⟨0, k, 0, x⟩))) := cellOf H17.out.right.right.boxed rfl
          go_upto_region 35 with (go_at_call 22; refine (read_says ⟨0, k, 0, x⟩ HOKE.out _).mono ?_; rintro e w18 ⟨rfl, hf18⟩; have H18 := Lib.hid (H17.out.fr hf18); clear hf18)
          have H19 := Lib.hid ((H18.out.box 58 #[.int .i64 0, .int .i64 k, .int .i64 0, .string (S x)]).turn)
          obtain ⟨Z, hZ⟩ : ∃ Z, Z = w18.heap.size := ⟨_, rfl⟩
          rw [← hZ] at H19 ⊢
          generalize w18.alloc (.cells #[.int .i64 0, .int .i64 k, .int .i64 0, .string (S x)] 58) = w19 at *
          clear hZ H18 H17 x1
          have hbZ := H19.out.right.boxed
          have hbY := H19.out.right.right.boxed
          have hbX := H19.out.right.right.right.boxed
          obtain ⟨gg, cg, hvg, hcg⟩ := str_row H19.out.right.right.right.right.row rfl (by omega)
          obtain ⟨rfl, rfl⟩ : b = some ⟨gg, 0, none⟩ ∧ d = cg := by simpa using hvg
          have k9 := hcg k hkl
          rw [(List.getElem?_eq_some_iff.1 HXX.out).2] at k9
          have x0 : w19.cell? ⟨X, 0, none⟩ = some (.int .i64 0) := cellOf hbX rfl
          have x1 : w19.cell? ⟨X, 1, none⟩ = some (.string (S (textR ⟨0, k, 0, x⟩))) := cellOf hbX rfl
          have x2 : w19.cell? ⟨X, 2, none⟩ = some (.int .i64 m1) := cellOf hbX rfl
          have y0 : w19.cell? ⟨Y, 0, none⟩ = some (.int .i64 0) := cellOf hbY rfl
          have y1 : w19.cell? ⟨Y, 1, none⟩ = some (.string (S (textR ⟨0, k, 0, x⟩))) := cellOf hbY rfl
          have y2 : w19.cell? ⟨Y, 2, none⟩ = some (.int .i64 m1) := cellOf hbY rfl
          have z0 : w19.cell? ⟨Z, 0, none⟩ = some (.int .i64 0) := cellOf hbZ rfl
          have z1 : w19.cell? ⟨Z, 1, none⟩ = some (.int .i64 k) := cellOf hbZ rfl
          have z3 : w19.cell? ⟨Z, 3, none⟩ = some (.string (S x)) := cellOf hbZ rfl
          clear hbX hbY hbZ hvg hcg
          go_quiet (fail)
          have H20 := Lib.hid (H19.out.fr (Fr.drewN w19 nq))
          have k9 := (Fr.drewN w19 nq).cell k9
          generalize w19.drewN nq = w20 at *
          clear H19 x0 x1 x2 y0 y1 y2 z0 z1 z3
          go_upto_region 38 with (go_at_call 25; refine (keyCall_some HY.out _ (by have := HXL.out; omega)).mono ?_; rintro e w21 ⟨rfl, hf21⟩; have H21 := Lib.hid (H20.out.fr hf21); clear hf21)
          clear k9 H20
          have HR1 : Hid (∃ q : List Sd, q.length ≤ 2 * (k + 1) ∧ Has w w21 ((BookT B R (sE E) q).sep ((RowT 9 1 (.slice (some ⟨gg, 0, none⟩) E.length d) E.length (strs E)).sep .emp))) := Lib.hid ⟨q2, by have := HQ1.out; have := HQ2.out; omega, by
            exact H21.out.turn.right.turn.right.turn.right⟩
          by_cases hyk : y = kx
          · have HT1 : Hid (true = decide (kx ∈ (ks E).take (k + 1))) := Lib.hid (decide_eq_true (HTM.out.2 (.inr (HYT.out.trans hyk)))).symm
            clear H21
            subst hyk
            go_wp2_with fail
            go_roundw
            case rel => exact ⟨k + 1, by omega, by go_num, true, rfl, HT1, HR1⟩
            case measure => simp [intOf]; omega
          · have HT1 : Hid (false = decide (kx ∈ (ks E).take (k + 1))) := Lib.hid (decide_eq_false (fun h => by
              rcases HTM.out.1 h with h | h
              · exact HM.out h
              · exact hyk (HYT.out.symm.trans h))).symm
            have hyb : (y == kx) = false := by simpa using hyk
            clear H21
            go_wp2_with fail
            go_roundw
            case rel => exact ⟨k + 1, by omega, by go_num, false, rfl, HT1, HR1⟩
            case measure => simp [intOf]; omega
theorem says_any (v : Value) (l : List Txt) (kx : Txt) (w : World) (hT : Tab w) (h : SSl w v l) (ha : SArg l) :
    Calls Tryd.prog 5 #[v, .string (S kx)] w fun e w' => e = .returned (.bool true) ∧ Fr w w' := by
  obtain ⟨ad, c, rfl⟩ := h.len
  by_cases hf : l.length ≤ 25 ∧ kx.length ≤ 300
  · exact says_yes ad c l kx w hT h ha hf.1 hf.2
  · exact says_not ad c l kx w hT hf
end Go.Proofs.YtailbappdfbjoaaDoor
