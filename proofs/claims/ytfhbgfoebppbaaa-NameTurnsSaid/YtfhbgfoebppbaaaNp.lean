/-
  NameTurns: the law's walk, for every argument.
-/
import Derived.Test.YtfhbgfoebppbaaaNr
namespace Go.Proofs.Ytfhbgfoebppbaaa
open Go.RowKit

set_option linter.unusedSimpArgs false in
set_option maxRecDepth 100000 in
set_option maxHeartbeats 4000000 in
theorem turns_main (v : Value) (l : List Txt) (s : Txt) (n : Nat) (w : World) (hm : Mx w) (hl : Sl w v l) (hz : ∀ k c, v = .slice none k c → k = 0 ∧ c = 0) (hsh : Sh l) (hs : s.length ≤ 60) (hn : n ≤ l.length) (hB : shB l = true) :
    Calls Try.prog 7 #[v, .string (S s), .int .i64 n] w fun e w' => e = .returned (.bool true) ∧ Fr w w' := by
  have hb := hsh.len
  have d1 : decide ((60 : Int) < (s.length : Int)) = false := decide_eq_false (by omega)
  have d2 : decide ((n : Int) < 0) = false := decide_eq_false (by omega)
  have d3 : decide (l.length < n) = false := decide_eq_false (by omega)
  have ls : s.length ≤ 1099511627776 := by omega
  have HM := Lib.hid hm
  have HS := Lib.hid (small_any w hm)
  have HQ := Lib.hid (fun w1 h => short_any v l w1 h (by unfold maxLen; omega))
  have HL := Lib.hid hl
  obtain ⟨a, c, hv⟩ := hl.len
  rw [hB] at HQ
  clear hm hl
  go_enter Try.func7, Try.ntmps7
  rw [hv] at HQ HL ⊢
  go_upto_region 4 with (first | (go_at_call 8; refine HS.out.mono ?_; rintro e w1 ⟨rfl, hf1⟩; have HF := Lib.hid hf1; clear hf1) | (go_at_call 9; refine (HQ.out _ (HL.out.fr HF.out)).mono ?_; rintro e w2 ⟨rfl, rfl⟩))
  have HL2 := Lib.hid (HL.out.fr HF.out)
  clear HL HS HQ
  obtain ⟨i0, hi, hz0, hz1, hz2⟩ := info_parts infoStr
  have HI := Lib.hid hi
  have HO := Lib.hid (own_empty w2)
  clear hi
  go_cut [8] (fun v8 wx => Hid (Fr w2 wx) ∧ Hid (Sl wx v8 (l.drop n ++ l.take n)))
  case first =>
    cases a with
    | none =>
      obtain ⟨h0, h1⟩ := hz _ _ hv
      have hl0 : l = [] := List.length_eq_zero_iff.1 h0
      subst hl0 h1
      obtain rfl : n = 0 := by simpa using hn
      clear hz hv
      go_wp2_with fail
      refine wp_gen (fun a0 ha0 => ?_)
      have e0 : a0.eval (.tmp 0) = .slice none 0 0 := by rw [ha0]; rfl
      have e2 : a0.eval (.tmp 2) = .int .i64 0 := by rw [ha0]; rfl
      have es : a0.tmps.size = 118 := by rw [ha0]; rfl
      have HA0 := Lib.hid ha0
      clear ha0
      refine wp_region_any (by kernel_rfl) ?_
      change wpAny _ _ _ _ _ _ _ (World.drew _)
      refine wpAny_take (i := 1) (oi := ⟨some 36, _, _, _, _, _⟩) (v := .slice none 0 0) rfl (by kernel_rfl) (by kernel_rfl) (by kernel_rfl) (fun _ _ _ h => h) (Or.inl ⟨rfl, exec_move (x := .tmp 0) (.inl rfl) (by simp [Act.eval_put_same, Act.eval_put_ne, Act.size_put, e0, e2, es])⟩) ?_
      refine wpAny_take (i := 2) (oi := ⟨some 37, _, _, _, _, _⟩) (v := .int .i64 0) rfl (by kernel_rfl) (by kernel_rfl) (by kernel_rfl) (fun _ _ _ h => h) (Or.inl ⟨rfl, exec_move (x := .tmp 2) (.inl rfl) (by simp [Act.eval_put_same, Act.eval_put_ne, Act.size_put, e0, e2, es])⟩) ?_
      refine wpAny_take (i := 3) (oi := ⟨some 38, _, _, _, _, _⟩) (v := .slice none 0 0) rfl (by kernel_rfl) (by kernel_rfl) (by kernel_rfl) (fun _ _ _ h => h) (Or.inl ⟨rfl, exec_from_nil rfl (by simp [Act.eval_put_same, Act.eval_put_ne, Act.size_put, e0, e2, es]) (by simp [Act.eval_put_same, Act.eval_put_ne, Act.size_put, e0, e2, es])⟩) ?_
      refine wpAny_take (i := 5) (oi := ⟨some 40, _, _, _, _, _⟩) (v := .slice none 0 0) rfl (by kernel_rfl) (by kernel_rfl) (by kernel_rfl) (fun _ _ _ h => h) (Or.inl ⟨rfl, exec_move (x := .tmp 0) (.inl rfl) (by simp [Act.eval_put_same, Act.eval_put_ne, Act.size_put, e0, e2, es])⟩) ?_
      refine wpAny_take (i := 6) (oi := ⟨some 41, _, _, _, _, _⟩) (v := .int .i64 0) rfl (by kernel_rfl) (by kernel_rfl) (by kernel_rfl) (fun _ _ _ h => h) (Or.inl ⟨rfl, exec_move (x := .tmp 2) (.inl rfl) (by simp [Act.eval_put_same, Act.eval_put_ne, Act.size_put, e0, e2, es])⟩) ?_
      refine wpAny_take (i := 7) (oi := ⟨some 42, _, _, _, _, _⟩) (v := .slice none 0 0) rfl (by kernel_rfl) (by kernel_rfl) (by kernel_rfl) (fun _ _ _ h => h) (Or.inl ⟨rfl, exec_to_nil rfl (by simp [Act.eval_put_same, Act.eval_put_ne, Act.size_put, e0, e2, es]) (by simp [Act.eval_put_same, Act.eval_put_ne, Act.size_put, e0, e2, es])⟩) ?_
      refine wpAny_ready (rs := [0]) (by kernel_rfl) (by simp) (AllReady.cons (o := ⟨some 35, _, _, _, _, _⟩) rfl (fun K hK => ?_) AllReady.nil)
      refine step_build0 rfl rfl (hK _ _ ?_)
      clear hK K
      refine wpAny_ready (rs := [4]) (by kernel_rfl) (by simp) (AllReady.cons (o := ⟨some 39, _, _, _, _, _⟩) rfl (fun K hK => ?_) AllReady.nil)
      refine step_append_none rfl (.tmp 35) (.tmp 38) 22 rfl w2.heap.size 9 i0 1 Try.underlying22 HI.out (.slice (some ⟨w2.heap.size, 0, none⟩) 0 0) 0 [] (by simp [Act.eval_put_same, Act.eval_put_ne, Act.size_put, e0, e2, es]) HO.out (by simp [Act.eval_put_same, Act.eval_put_ne, Act.size_put, e0, e2, es]) (hK _ _ ?_)
      clear hK K
      refine wpAny_ready (rs := [8]) (by kernel_rfl) (by simp) (AllReady.cons (o := ⟨some 43, _, _, _, _, _⟩) rfl (fun K hK => ?_) AllReady.nil)
      refine step_append_none rfl (.tmp 39) (.tmp 42) 22 rfl w2.heap.size 9 i0 1 Try.underlying22 HI.out (.slice (some ⟨w2.heap.size, 0, none⟩) 0 0) 0 [] (by simp [Act.eval_put_same, Act.eval_put_ne, Act.size_put, e0, e2, es]) HO.out (by simp [Act.eval_put_same, Act.eval_put_ne, Act.size_put, e0, e2, es]) (hK _ _ ?_)
      clear hK K
      refine wpAny_take (i := 9) (oi := ⟨some 8, _, _, _, _, _⟩) (v := .slice (some ⟨w2.heap.size, 0, none⟩) 0 0) rfl (by kernel_rfl) (by kernel_rfl) (by kernel_rfl) (fun _ _ _ h => h) (Or.inl ⟨rfl, exec_move (x := .tmp 43) (.inr rfl) (by simp [Act.eval_put_same, Act.eval_put_ne, Act.size_put, e0, e2, es])⟩) ?_
      refine wpAny_done (by kernel_rfl) ?_ _
      rw [HA0.out]
      simp only [Act.put, List.setIfInBounds_toArray, List.set_cons_zero, List.set_cons_succ]
      go_wp2_with fail
      go_meet
      exact ⟨Lib.hid ((Fr.alloc w2 _).trans (Fr.drew _)), Lib.hid (Sl.own HO.out)⟩
    | some ad =>
      have hpc : ∃ b o, (0 < l.length → ad = ⟨b, o, none⟩) ∧ At w2 b o l ∧ l.length ≤ c := by
        rcases HL2.out with ⟨h1, _⟩ | ⟨b, o, c', h1, h2, h3⟩
        · exact ⟨0, 0, fun h => by rw [h1] at h; simp at h, fun i hi => by rw [h1] at hi; simp at hi, by rw [h1]; simp⟩
        · cases h1
          exact ⟨b, o, fun _ => rfl, h2, h3⟩
      obtain ⟨b, o, had, hat, hcap⟩ := hpc
      obtain ⟨ad2, had2⟩ : ∃ x, x = if c = n then ad else ad.add n := ⟨_, rfl⟩
      have HAD := Lib.hid had2
      clear had2
      have HC1 := Lib.hid (fun w' (hf : Fr w2 w') => (hat.fr hf).piece n (fun _ => True) (l.drop n) (fun j hj => by
        rw [List.length_drop] at hj
        exact ⟨by omega, by rw [List.getElem_drop]⟩) ad2 (fun h => by
        rw [List.length_drop] at h
        rw [HAD.out, if_neg (by omega), had (by omega), add_none]))
      have HC2 := Lib.hid (fun w' (hf : Fr w2 w') => (hat.fr hf).piece 0 (fun _ => True) (l.take n) (fun j hj => by
        rw [List.length_take] at hj
        exact ⟨by omega, by rw [List.getElem_take]; congr 1; omega⟩) ad (fun h => by
        rw [List.length_take] at h
        rw [had (by omega), Nat.add_zero]))
      clear hat had hz hv
      go_wp2_with fail
      refine wp_gen (fun a0 ha0 => ?_)
      have e0 : a0.eval (.tmp 0) = .slice (some ad) l.length c := by rw [ha0]; rfl
      have e2 : a0.eval (.tmp 2) = .int .i64 n := by rw [ha0]; rfl
      have es : a0.tmps.size = 118 := by rw [ha0]; rfl
      have HA0 := Lib.hid ha0
      clear ha0
      refine wp_region_any (by kernel_rfl) ?_
      change wpAny _ _ _ _ _ _ _ (World.drew _)
      refine wpAny_take (i := 1) (oi := ⟨some 36, _, _, _, _, _⟩) (v := .slice (some ad) l.length c) rfl (by kernel_rfl) (by kernel_rfl) (by kernel_rfl) (fun _ _ _ h => h) (Or.inl ⟨rfl, exec_move (x := .tmp 0) (.inl rfl) (by simp [Act.eval_put_same, Act.eval_put_ne, Act.size_put, e0, e2, es])⟩) ?_
      refine wpAny_take (i := 2) (oi := ⟨some 37, _, _, _, _, _⟩) (v := .int .i64 n) rfl (by kernel_rfl) (by kernel_rfl) (by kernel_rfl) (fun _ _ _ h => h) (Or.inl ⟨rfl, exec_move (x := .tmp 2) (.inl rfl) (by simp [Act.eval_put_same, Act.eval_put_ne, Act.size_put, e0, e2, es])⟩) ?_
      refine wpAny_take (i := 3) (oi := ⟨some 38, _, _, _, _, _⟩) (v := .slice (some ad2) (l.length - n) (c - n)) rfl (by kernel_rfl) (by kernel_rfl) (by kernel_rfl) (fun _ _ _ h => h) (Or.inl ⟨rfl, exec_from rfl (by simp [Act.eval_put_same, Act.eval_put_ne, Act.size_put, e0, e2, es]) (by simp [Act.eval_put_same, Act.eval_put_ne, Act.size_put, e0, e2, es]) hn hcap HAD.out⟩) ?_
      refine wpAny_take (i := 5) (oi := ⟨some 40, _, _, _, _, _⟩) (v := .slice (some ad) l.length c) rfl (by kernel_rfl) (by kernel_rfl) (by kernel_rfl) (fun _ _ _ h => h) (Or.inl ⟨rfl, exec_move (x := .tmp 0) (.inl rfl) (by simp [Act.eval_put_same, Act.eval_put_ne, Act.size_put, e0, e2, es])⟩) ?_
      refine wpAny_take (i := 6) (oi := ⟨some 41, _, _, _, _, _⟩) (v := .int .i64 n) rfl (by kernel_rfl) (by kernel_rfl) (by kernel_rfl) (fun _ _ _ h => h) (Or.inl ⟨rfl, exec_move (x := .tmp 2) (.inl rfl) (by simp [Act.eval_put_same, Act.eval_put_ne, Act.size_put, e0, e2, es])⟩) ?_
      refine wpAny_take (i := 7) (oi := ⟨some 42, _, _, _, _, _⟩) (v := .slice (some ad) n c) rfl (by kernel_rfl) (by kernel_rfl) (by kernel_rfl) (fun _ _ _ h => h) (Or.inl ⟨rfl, exec_to (len := l.length) rfl (by simp [Act.eval_put_same, Act.eval_put_ne, Act.size_put, e0, e2, es]) (by simp [Act.eval_put_same, Act.eval_put_ne, Act.size_put, e0, e2, es]) (by omega)⟩) ?_
      refine wpAny_ready (rs := [0]) (by kernel_rfl) (by simp) (AllReady.cons (o := ⟨some 35, _, _, _, _, _⟩) rfl (fun K hK => ?_) AllReady.nil)
      refine step_build0 rfl rfl (hK _ _ ?_)
      clear hK K
      refine wpAny_ready (rs := [4]) (by kernel_rfl) (by simp) (AllReady.cons (o := ⟨some 39, _, _, _, _, _⟩) rfl (fun K hK => ?_) AllReady.nil)
      refine step_append_own rfl (.tmp 35) (.tmp 38) 22 rfl w2.heap.size 9 i0 (.string (S [])) 1 16 Try.underlying22 HI.out hz0 hz1 hz2 rfl (by decide) (.slice (some ⟨w2.heap.size, 0, none⟩) 0 0) 0 [] (by simp [Act.eval_put_same, Act.eval_put_ne, Act.size_put, e0, e2, es]) HO.out ad2 (l.length - n) (c - n) (strs (l.drop n)) (by simp [Act.eval_put_same, Act.eval_put_ne, Act.size_put, e0, e2, es]) (by rw [strs_len, List.length_drop, Nat.mul_one]) (HC1.out _ (Fr.trans (Fr.alloc w2 _) (Fr.drew _))) (strs_one _) (by unfold maxLen; omega) (by omega) (by simp) ?_
      intro v3 w3 hown3 hgr3
      have HF3 := Lib.hid (fr_row ((Fr.alloc w2 (.cells #[] 9)).trans (Fr.drew _)) HO.out (Nat.le_refl _) hgr3)
      have HO3 := Lib.hid hown3
      clear hown3 hgr3
      refine hK _ _ ?_
      clear hK K
      refine wpAny_ready (rs := [8]) (by kernel_rfl) (by simp) (AllReady.cons (o := ⟨some 43, _, _, _, _, _⟩) rfl (fun K hK => ?_) AllReady.nil)
      refine step_append_own rfl (.tmp 39) (.tmp 42) 22 rfl w2.heap.size 9 i0 (.string (S [])) 1 16 Try.underlying22 HI.out hz0 hz1 hz2 rfl (by decide) v3 (0 + (l.length - n)) ([] ++ strs (l.drop n)) (by simp [Act.eval_put_same, Act.eval_put_ne, Act.size_put, e0, e2, es]) HO3.out ad n c (strs (l.take n)) (by simp [Act.eval_put_same, Act.eval_put_ne, Act.size_put, e0, e2, es]) (by rw [strs_len, List.length_take, Nat.mul_one, Nat.min_eq_left hn]) (HC2.out _ HF3.out) (strs_one _) (by unfold maxLen; omega) (by omega) HF3.out.size ?_
      intro v4 w4 hown4 hgr4
      have HF4 := Lib.hid (fr_row HF3.out HO3.out (Nat.le_refl _) hgr4)
      have HO4 := Lib.hid hown4
      clear hown4 hgr4
      refine hK _ _ ?_
      clear hK K
      refine wpAny_take (i := 9) (oi := ⟨some 8, _, _, _, _, _⟩) (v := v4) rfl (by kernel_rfl) (by kernel_rfl) (by kernel_rfl) (fun _ _ _ h => h) (Or.inl ⟨rfl, exec_move (x := .tmp 43) (.inr rfl) (by simp [Act.eval_put_same, Act.eval_put_ne, Act.size_put, e0, e2, es])⟩) ?_
      refine wpAny_done (by kernel_rfl) ?_ _
      rw [HA0.out]
      simp only [Act.put, List.setIfInBounds_toArray, List.set_cons_zero, List.set_cons_succ]
      go_wp2_with fail
      go_meet
      exact ⟨HF4, Lib.hid (Sl.own (n := 0 + (l.length - n) + n) (by rw [strs_app]; exact HO4.out))⟩
  case rest =>
    obtain ⟨hF4, hSl4⟩ := hcut
    have HF5 := Lib.hid (HF.out.trans hF4.out)
    have HL5 := Lib.hid (HL2.out.fr hF4.out)
    have HS5 := hSl4
    have hok1 := hsh.ok
    have hok2 : Ok (l.drop n ++ l.take n) := ⟨by simp only [List.length_append, List.length_drop, List.length_take]; omega, fun t ht => hok1.mem t (by
      rcases List.mem_append.1 ht with h | h
      · exact List.mem_of_mem_drop h
      · exact List.mem_of_mem_take h)⟩
    have hturn : fre (l.drop n ++ l.take n) [] s 0 = fre l [] s 0 := fre_turn (fun t => by
      rw [List.mem_append, Or.comm, ← List.mem_append, List.take_append_drop]) [] s 0
    have F1 : (fre l [] s 0 == 0) = (okN s && !(l.any fun t => cf t s)) := by
      rw [Bool.eq_iff_iff, beq_iff_eq, fre_ok]
      simp [hld]
    have F2 : (fre l [] s 0 == 5) = (okN s && (l.any fun t => t == s)) := by
      rw [Bool.eq_iff_iff, beq_iff_eq, fre_twice]
      simp
    have hE1 : ∀ w1, Sl w1 (.slice a l.length c) l → Mx w1 → Calls Try.prog 24 #[.slice a l.length c, .slice none 0 0, .string (S s), .int .i64 0] w1 fun e w' => e = .returned (.int .i64 (fre l [] s 0)) ∧ Fr w1 w' :=
      fun w1 h1 h2 => free_any _ _ l [] s 0 w1 h1 hok1 (Hl.nil _ _ _) hok0 h2 ls
    have HE1 := Lib.hid hE1
    have HE2 := Lib.hid (fun w1 (h1 : Sl w1 u8 (l.drop n ++ l.take n)) (h2 : Mx w1) => free_any u8 (.slice none 0 0) (l.drop n ++ l.take n) [] s 0 w1 h1 hok2 (Hl.nil _ _ _) hok0 h2 ls)
    rw [hturn] at HE2
    obtain ⟨a8, c8, h8⟩ : ∃ a8 c8, u8 = .slice a8 l.length c8 := by
      obtain ⟨a8, c8, h8⟩ := HS5.out.len
      exact ⟨a8, c8, by rw [h8]; congr 1; simp only [List.length_append, List.length_drop, List.length_take]; omega⟩
    have HF1 := Lib.hid F1
    have HF2 := Lib.hid F2
    have HOK := Lib.hid hok1
    clear hE1 F1 F2 hturn hok1 hok2 hF4 hSl4
    generalize fre l [] s 0 = E at *
    subst h8
    go_wp2_with (go_at_call 24; refine (HE1.out _ HL5.out (HM.out.fr HF5.out)).mono ?_; rintro e w6 ⟨rfl, hf6⟩; have HF6 := Lib.hid (HF5.out.trans hf6); have HL6 := Lib.hid (HL5.out.fr hf6); have HS6 := Lib.hid (HS5.out.fr hf6); clear hf6)
    clear HF5 HL5 HS5 HF HL2
    go_loopw [12, 10, 11] (fun i x y wr => ∃ k : Nat, k ≤ l.length ∧ i = .int .i64 k ∧ x = .bool ((l.take k).any fun t => cf t s) ∧ y = .bool ((l.take k).any fun t => t == s) ∧ Hid (Fr w6 wr)) (fun i _ _ _ => l.length - (intOf i).toNat)
    case atStart => exact ⟨0, Nat.zero_le _, rfl, rfl, rfl, Lib.hid (Fr.refl _)⟩
    case round =>
      obtain ⟨k, hk, rfl, rfl, rfl, hF⟩ := hrel
      by_cases hlt : k < l.length
      · rcases HL6.out.cases with ⟨h, _⟩ | ⟨b, o, c', hv', hat⟩
        · rw [h] at hlt; simp at hlt
        · cases hv'
          have c1 := hF.out.cell (hat k hlt)
          have l1 := HOK.out.mem _ (List.getElem_mem hlt)
          have hx1 : (l.take (k + 1)).any (fun t => cf t s) = ((l.take k).any (fun t => cf t s) || cf l[k] s) := by
            rw [List.take_succ_eq_append_getElem hlt, List.any_append]; simp
          have hx2 : (l.take (k + 1)).any (fun t => t == s) = ((l.take k).any (fun t => t == s) || l[k] == s) := by
            rw [List.take_succ_eq_append_getElem hlt, List.any_append]; simp
          have HX1 := Lib.hid hx1
          have HX2 := Lib.hid hx2
          have HC := Lib.hid (fun w => conf_any l[k] s w l1 ls)
          clear hx1 hx2 hat
          generalize (l.take k).any (fun t => cf t s) = x1 at *
          generalize (l.take k).any (fun t => t == s) = x2 at *
          generalize cf l[k] s = y1 at *
          generalize l[k] = z at *
          cases x1 with
          | true =>
            cases x2 with
            | true =>
              go_wp2_with fail
              go_roundw
              case rel => exact ⟨k + 1, by omega, by go_num, by rw [HX1.out]; rfl, by rw [HX2.out]; rfl, hF⟩
              case measure => simp [intOf]; omega
            | false =>
              go_wp2_with fail
              go_roundw
              case rel => exact ⟨k + 1, by omega, by go_num, by rw [HX1.out]; rfl, by rw [HX2.out]; rfl, hF⟩
              case measure => simp [intOf]; omega
          | false =>
            cases x2 with
            | true =>
              go_wp2_with (go_at_call 20; refine (HC.out _).mono ?_; rintro e w7 ⟨rfl, hf7⟩; have HF7 := Lib.hid (hF.out.trans hf7); clear hf7)
              go_roundw
              case rel => exact ⟨k + 1, by omega, by go_num, by rw [HX1.out]; rfl, by rw [HX2.out]; rfl, HF7⟩
              case measure => simp [intOf]; omega
            | false =>
              have hF8 := fun w7 (h : Fr wr w7) => (hF.out.trans h)
              have hc8 := fun w7 (h : Fr wr w7) => h.cell c1
              have HC8 := Lib.hid hc8
              have HF8 := Lib.hid hF8
              clear hc8 hF8
              go_wp2_with (go_at_call 20; refine (HC.out _).mono ?_; rintro e w7 ⟨rfl, hf7⟩; have HF7 := Lib.hid (HF8.out _ hf7); have c2 := HC8.out _ hf7; clear hf7)
              go_roundw
              case rel => exact ⟨k + 1, by omega, by go_num, by rw [HX1.out]; rfl, by rw [HX2.out]; rfl, HF7⟩
              case measure => simp [intOf]; omega
      · obtain rfl : k = l.length := by omega
        rw [List.take_length]
        have hG := fun w1 h => guard_any (.slice a l.length c) l s w1 h HOK.out ls
        have hR := fun w1 h => right_any s w1 h ls
        have hN := gd_iff l s
        have hmem := fun t (h : gd l s = some t) => HOK.out.mem t (List.mem_of_find?_eq_some h)
        have hcf := fun t (h : gd l s = some t) => gd_some h
        have hq1 := HF1.out
        have hq2 := HF2.out
        unfold gdV at hG
        clear HF1 HF2
        generalize (l.any fun t => cf t s) = N at *
        generalize (l.any fun t => t == s) = M at *
        generalize okN s = ok at *
        have HR := Lib.hid hR
        clear hR
        generalize gd l s = g at *
        cases g with
        | none =>
          obtain rfl : false = N := hN
          have HG := Lib.hid hG
          clear hG hmem hcf
          cases ok <;> cases M <;> simp only [Bool.and_true, Bool.and_false, Bool.true_and, Bool.false_and, Bool.not_false, Bool.not_true] at hq1 hq2
          all_goals (go_wp2_with (first
            | (go_at_call 11; refine (HG.out _ (HL6.out.fr hF.out)).mono ?_; rintro e w8 ⟨rfl, hf8⟩; have HFX := Lib.hid (hF.out.trans hf8); clear hf8)
            | (go_at_call 20; refine (HC.out _).mono ?_; rintro e w9 ⟨rfl, hf9⟩; have HFX := Lib.hid (HFX.out.trans hf9); clear hf9)
            | (go_at_call 24; refine (HE2.out _ (HS6.out.fr HFX.out) (HM.out.fr (HF6.out.trans HFX.out))).mono ?_; rintro e w10 ⟨rfl, hf10⟩; have HFX := Lib.hid (HFX.out.trans hf10); clear hf10; have HRX := Lib.hid (HR.out _ (HM.out.fr (HF6.out.trans HFX.out))))
            | (go_at_call 16; refine HRX.out.mono ?_; rintro e w11 ⟨rfl, rfl⟩)))
          all_goals go_ret
          all_goals exact ⟨rfl, HF6.out.trans HFX.out⟩
        | some t =>
          obtain rfl : true = N := hN
          have HG := Lib.hid hG
          have hct := hcf t rfl
          have HC := Lib.hid (fun w => conf_any t s w (hmem t rfl) ls)
          rw [hct] at HC
          clear hG hmem hcf hct
          cases ok <;> cases M <;> simp only [Bool.and_true, Bool.and_false, Bool.true_and, Bool.false_and, Bool.not_false, Bool.not_true] at hq1 hq2
          all_goals (go_wp2_with (first
            | (go_at_call 11; refine (HG.out _ (HL6.out.fr hF.out)).mono ?_; rintro e w8 ⟨rfl, hf8⟩; have HFX := Lib.hid (hF.out.trans hf8); clear hf8)
            | (go_at_call 20; refine (HC.out _).mono ?_; rintro e w9 ⟨rfl, hf9⟩; have HFX := Lib.hid (HFX.out.trans hf9); clear hf9)
            | (go_at_call 24; refine (HE2.out _ (HS6.out.fr HFX.out) (HM.out.fr (HF6.out.trans HFX.out))).mono ?_; rintro e w10 ⟨rfl, hf10⟩; have HFX := Lib.hid (HFX.out.trans hf10); clear hf10; have HRX := Lib.hid (HR.out _ (HM.out.fr (HF6.out.trans HFX.out))))
            | (go_at_call 16; refine HRX.out.mono ?_; rintro e w11 ⟨rfl, rfl⟩)))
          all_goals go_ret
          all_goals exact ⟨rfl, HF6.out.trans HFX.out⟩
set_option maxRecDepth 100000 in
set_option maxHeartbeats 4000000 in
theorem turns_out (v : Value) (l : List Txt) (s : Txt) (by_ : Int) (w : World) (hm : Mx w) (hl : Sl w v l) (hn : l.length ≤ maxLen)
    (h : shB l = false ∨ (shB l = true ∧ (60 < s.length ∨ (s.length ≤ 60 ∧ (by_ < 0 ∨ (0 ≤ by_ ∧ (l.length : Int) < by_)))))) :
    Calls Try.prog 7 #[v, .string (S s), .int .i64 by_] w fun e w' => e = .returned (.bool true) ∧ Fr w w' := by
  have HS := Lib.hid (small_any w hm)
  have HQ := Lib.hid (fun w1 h => short_any v l w1 (hl.fr h) hn)
  obtain ⟨a, c, hv⟩ := hl.len
  clear hm hl hn
  rcases h with hB | ⟨hB, h | ⟨h1, h | ⟨h2, h⟩⟩⟩
  · rw [hB] at HQ
    clear hB
    go_enter Try.func7, Try.ntmps7
    rw [hv] at HQ ⊢
    go_wp2_with (first | (go_at_call 8; refine HS.out.mono ?_; rintro e w1 ⟨rfl, hf1⟩; have HF := Lib.hid hf1; clear hf1) | (go_at_call 9; refine (HQ.out _ HF.out).mono ?_; rintro e w2 ⟨rfl, rfl⟩))
    go_ret
    exact ⟨rfl, HF.out⟩
  · rw [hB] at HQ
    have d1 : decide ((60 : Int) < (s.length : Int)) = true := decide_eq_true (by omega)
    clear hB h
    go_enter Try.func7, Try.ntmps7
    rw [hv] at HQ ⊢
    go_wp2_with (first | (go_at_call 8; refine HS.out.mono ?_; rintro e w1 ⟨rfl, hf1⟩; have HF := Lib.hid hf1; clear hf1) | (go_at_call 9; refine (HQ.out _ HF.out).mono ?_; rintro e w2 ⟨rfl, rfl⟩))
    go_ret
    exact ⟨rfl, HF.out⟩
  · rw [hB] at HQ
    have d1 : decide ((60 : Int) < (s.length : Int)) = false := decide_eq_false (by omega)
    have d2 : decide (by_ < 0) = true := decide_eq_true h
    clear hB h h1
    go_enter Try.func7, Try.ntmps7
    rw [hv] at HQ ⊢
    go_wp2_with (first | (go_at_call 8; refine HS.out.mono ?_; rintro e w1 ⟨rfl, hf1⟩; have HF := Lib.hid hf1; clear hf1) | (go_at_call 9; refine (HQ.out _ HF.out).mono ?_; rintro e w2 ⟨rfl, rfl⟩))
    go_ret
    exact ⟨rfl, HF.out⟩
  · rw [hB] at HQ
    have d1 : decide ((60 : Int) < (s.length : Int)) = false := decide_eq_false (by omega)
    have d2 : decide (by_ < 0) = false := decide_eq_false (by omega)
    have d3 : decide ((l.length : Int) < by_) = true := decide_eq_true h
    clear hB h h1 h2
    go_enter Try.func7, Try.ntmps7
    rw [hv] at HQ ⊢
    go_wp2_with (first | (go_at_call 8; refine HS.out.mono ?_; rintro e w1 ⟨rfl, hf1⟩; have HF := Lib.hid hf1; clear hf1) | (go_at_call 9; refine (HQ.out _ HF.out).mono ?_; rintro e w2 ⟨rfl, rfl⟩))
    go_ret
    exact ⟨rfl, HF.out⟩
theorem turns_any (v : Value) (l : List Txt) (s : Txt) (by_ : Int) (w : World) (hm : Mx w) (hl : Sl w v l) (hn : l.length ≤ maxLen) (hz : ∀ k c, v = .slice none k c → k = 0 ∧ c = 0) :
    Calls Try.prog 7 #[v, .string (S s), .int .i64 by_] w fun e w' => e = .returned (.bool true) ∧ Fr w w' := by
  by_cases hB : shB l = true
  · by_cases h1 : s.length ≤ 60
    · by_cases h2 : by_ < 0
      · exact turns_out v l s by_ w hm hl hn (.inr ⟨hB, .inr ⟨h1, .inl h2⟩⟩)
      · by_cases h3 : (l.length : Int) < by_
        · exact turns_out v l s by_ w hm hl hn (.inr ⟨hB, .inr ⟨h1, .inr ⟨by omega, h3⟩⟩⟩)
        · obtain ⟨n, rfl⟩ : ∃ n : Nat, by_ = n := ⟨by_.toNat, by omega⟩
          exact turns_main v l s n w hm hl hz (shB_sh hB) h1 (by omega) hB
    · exact turns_out v l s by_ w hm hl hn (.inr ⟨hB, .inl (by omega)⟩)
  · exact turns_out v l s by_ w hm hl hn (.inl (by simpa using hB))
end Go.Proofs.Ytfhbgfoebppbaaa
