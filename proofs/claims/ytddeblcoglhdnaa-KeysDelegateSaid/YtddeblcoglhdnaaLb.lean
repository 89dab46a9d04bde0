/-
  The law's examples.
-/
import Derived.Test.YtddeblcoglhdnaaLa
namespace Go.Proofs.Ytddeblcoglhdnaa
open Go.RowKit Mb Go.BigFrame

def geo : Txt := [103, 101, 111]
def base : Txt := [98, 97, 115, 101]
/-- The log of the examples. -/
def exL (k1 k2 : Value) : List Ft := [mkF 5 geo [] [1, 2, 3] k1 2 0, mkF 6 geo [] [7] k2 1 5]
theorem ex1 (k1 k2 : Value) : may (exL k1 k2) [] (relF geo) [1, 2] = 0 := by kernel_rfl
theorem ex2 (k1 k2 : Value) : may (exL k1 k2) [] (relF geo) [1, 1] = 23 := by kernel_rfl
theorem ex3 (k1 k2 : Value) : may (exL k1 k2) [] (relF geo) [7] = 0 := by kernel_rfl
def yank : Ft := mkF 1 geo [] [] (.slice none 0 0) 0 0
theorem ex4 (k1 k2 : Value) : may (exL k1 k2) [] yank [7] = 23 := by kernel_rfl
theorem ex5 (k1 k2 : Value) : may (exL k1 k2) [] yank [3, 9, 1] = 0 := by kernel_rfl
theorem ex6 (k1 k2 : Value) : may (exL k1 k2) [] (relF base) [1] = 24 := by kernel_rfl
def m45 (k : Value) : Ft := mkF 5 base [] [4, 5] k 1 0
theorem ex7 (k1 k2 k3 : Value) : may (exL k1 k2) [] (m45 k3) [5] = 0 := by kernel_rfl
theorem ex8 (k1 k2 : Value) : own (exL k1 k2) geo = some (mkF 5 geo [] [1, 2, 3] k1 2 0) := by kernel_rfl
theorem ex9 (k1 k2 : Value) : dlg (exL k1 k2) geo = some (mkF 6 geo [] [7] k2 1 5) := by kernel_rfl
theorem ex10 (k1 k2 : Value) : ad (exL k1 k2) [] [[1, 3], [2]] = (1, 23) := by kernel_rfl
theorem ex11 (k1 k2 : Value) : chn (exL k1 k2) geo = [0] := by kernel_rfl
/-- A slice of ints that was written out. -/
theorem sl_lit (w : World) (l : List Int) : Sl (w.alloc (.cells (ints l).toArray 3)) (.slice (some ⟨w.heap.size, 0, none⟩) l.length l.length) l := by
  rcases l with _ | ⟨a, l⟩
  · exact .inl ⟨rfl, _, _, rfl⟩
  · refine .inr ⟨_, 0, _, rfl, .of fun i x hx => ?_, Nat.le_refl _⟩
    rw [Nat.zero_add]
    exact cellOf (MapKept.heap_alloc w _).1 (by simpa using hx)
theorem ok_lit {l : List Int} (h1 : l.length ≤ 1000000) (h2 : ∀ x ∈ l, -1000000 ≤ x ∧ x ≤ 1000000) : Ok l := ⟨h1, fun x hx => by have := h2 x hx; omega⟩
theorem ss_lit2 (w : World) (a b : List Int) : SsSl (((w.alloc (.cells (ints a).toArray 3)).alloc (.cells (ints b).toArray 3)).alloc (.cells #[.slice (some ⟨w.heap.size, 0, none⟩) a.length a.length, .slice (some ⟨w.heap.size + 1, 0, none⟩) b.length b.length] 23)) (.slice (some ⟨w.heap.size + 1 + 1, 0, none⟩) 2 2) [a, b] := by
  have h1 := sl_lit w a
  have h2 := sl_lit (w.alloc (.cells (ints a).toArray 3)) b
  have e1 : (w.alloc (.cells (ints a).toArray 3)).heap.size = w.heap.size + 1 := by simp
  have e2 : ((w.alloc (.cells (ints a).toArray 3)).alloc (.cells (ints b).toArray 3)).heap.size = w.heap.size + 1 + 1 := by simp
  rw [e1] at h2
  have hb := (MapKept.heap_alloc ((w.alloc (.cells (ints a).toArray 3)).alloc (.cells (ints b).toArray 3)) (.cells #[.slice (some ⟨w.heap.size, 0, none⟩) a.length a.length, .slice (some ⟨w.heap.size + 1, 0, none⟩) b.length b.length] 23)).1
  rw [e2] at hb
  refine .inr ⟨_, 0, 2, rfl, fun i hi => ?_, by simp⟩
  rcases i with _ | _ | i
  · exact ⟨_, cellOf hb (i := 0 + 0) rfl, (h1.fr (Fr.alloc _ _)).fr (Fr.alloc _ _)⟩
  · exact ⟨_, cellOf hb (i := 0 + 1) rfl, h2.fr (Fr.alloc _ _)⟩
  · simp at hi; omega
theorem FB.of {f : Ft} (h1 : Ok f.keys) (h2 : (nm f).length ≤ 1000000) : FB f := ⟨h1, by omega⟩
set_option maxRecDepth 100000 in
set_option maxHeartbeats 4000000 in
theorem small_any (w : World) : Calls Try.prog 8 #[] w fun e w' => e = .returned (.bool true) ∧ Fr w w' := by
  go_enter Try.func8, Try.ntmps8
  go_upto_region 1 with fail
  go_cut [1] (fun s1 wx => ∃ k1 k2, Hid (FSl wx s1 (exL k1 k2)) ∧ Hid (Fr w wx))
  case first =>
    have h1 := sl_lit w [1, 2, 3]
    have h2 := sl_lit (w.alloc (.cells #[.int .i64 1, .int .i64 2, .int .i64 3] 3)) [7]
    rw [show (w.alloc (.cells #[.int .i64 1, .int .i64 2, .int .i64 3] 3)).heap.size = w.heap.size + 1 by simp] at h2
    have hF12 : Fr w ((w.alloc (.cells #[.int .i64 1, .int .i64 2, .int .i64 3] 3)).alloc (.cells #[.int .i64 7] 3)) := (Fr.alloc _ _).trans (Fr.alloc _ _)
    have HOK : Hid (∀ f ∈ exL (.slice (some ⟨w.heap.size, 0, none⟩) 3 3) (.slice (some ⟨w.heap.size + 1, 0, none⟩) 1 1), FtOk ((w.alloc (.cells #[.int .i64 1, .int .i64 2, .int .i64 3] 3)).alloc (.cells #[.int .i64 7] 3)) f) := Lib.hid fun f hf => by
      simp only [exL, List.mem_cons, List.not_mem_nil, or_false] at hf
      rcases hf with rfl | rfl
      · exact mkF_ok _ _ _ _ _ _ _ _ (h1.fr (Fr.alloc _ _))
      · exact mkF_ok _ _ _ _ _ _ _ _ h2
    have HF0 := Lib.hid hF12
    have HRW := Lib.hid (rowF _ _ HOK.out (by show 2 ≤ 1000; decide))
    have hsz : ((w.alloc (.cells #[.int .i64 1, .int .i64 2, .int .i64 3] 3)).alloc (.cells #[.int .i64 7] 3)).heap.size = w.heap.size + 1 + 1 := by simp
    rw [hsz] at HRW
    clear h1 h2 hF12 hsz
    go_wp2_with (refine wpList_build_facts rfl 2 _ rfl (exL (.slice (some ⟨w.heap.size, 0, none⟩) 3 3) (.slice (some ⟨w.heap.size + 1, 0, none⟩) 1 1)) rfl (by rfl) HOK.out (by decide) (by decide) ?_)
    go_meet
    refine ⟨_, _, Lib.hid (FSl.own HRW.out rfl fun f hf => (HOK.out f hf).fr (Fr.alloc _ _)), Lib.hid (HF0.out.trans (Fr.alloc _ _))⟩
  case rest =>
    obtain ⟨k1, k2, HS, HF0⟩ := hcut
    obtain ⟨wb, hwb⟩ : ∃ wb, wb = wc := ⟨_, rfl⟩
    subst hwb
    have HLB : Hid (LB (exL k1 k2)) := Lib.hid ⟨by show 2 ≤ 1000000; decide, fun f hf => by
      simp only [exL, List.mem_cons, List.not_mem_nil, or_false] at hf
      rcases hf with rfl | rfl
      · exact FB.of (show Ok [1, 2, 3] from ok_lit (by decide) (by decide)) (by show 3 ≤ 1000000; decide)
      · exact FB.of (show Ok [7] from ok_lit (by decide) (by decide)) (by show 3 ≤ 1000000; decide)⟩
    have HM := Lib.hid fun u f q w' (hw : Fr wb w') (h1 : FtOk w' f) (h2 : FB f) (h3 : Sl w' u q) (h4 : Ok q) => mayF_any u1 (.slice none 0 0) u (exL k1 k2) [] f q w' (HS.out.fr hw) HLB.out (Sl.nil _ _ _) Ok.nil h1 h2 h3 h4
    have M1 : Hid (∀ w', Fr wb w' → Calls Try.prog 21 #[u1, .slice none 0 0, (relF geo).v, .slice (some ⟨w'.heap.size, 0, none⟩) 2 2] (w'.alloc (.cells #[.int .i64 1, .int .i64 2] 3)) fun e w'' => e = .returned (.int .i64 0) ∧ Fr (w'.alloc (.cells #[.int .i64 1, .int .i64 2] 3)) w'') := Lib.hid fun w' hw => by
      have h := HM.out (.slice (some ⟨w'.heap.size, 0, none⟩) 2 2) (relF geo) [1, 2] (w'.alloc (.cells #[.int .i64 1, .int .i64 2] 3)) (hw.trans (Fr.alloc _ _)) (relF_ok _ _) (FB.of (ok_lit (by decide) (by decide)) (by decide)) (sl_lit w' [1, 2]) (ok_lit (by decide) (by decide))
      rw [ex1] at h
      exact h
    have M2 : Hid (∀ w', Fr wb w' → Calls Try.prog 21 #[u1, .slice none 0 0, (relF geo).v, .slice (some ⟨w'.heap.size, 0, none⟩) 2 2] (w'.alloc (.cells #[.int .i64 1, .int .i64 1] 3)) fun e w'' => e = .returned (.int .i64 23) ∧ Fr (w'.alloc (.cells #[.int .i64 1, .int .i64 1] 3)) w'') := Lib.hid fun w' hw => by
      have h := HM.out (.slice (some ⟨w'.heap.size, 0, none⟩) 2 2) (relF geo) [1, 1] (w'.alloc (.cells #[.int .i64 1, .int .i64 1] 3)) (hw.trans (Fr.alloc _ _)) (relF_ok _ _) (FB.of (ok_lit (by decide) (by decide)) (by decide)) (sl_lit w' [1, 1]) (ok_lit (by decide) (by decide))
      rw [ex2] at h
      exact h
    have M3 : Hid (∀ w', Fr wb w' → Calls Try.prog 21 #[u1, .slice none 0 0, (relF geo).v, .slice (some ⟨w'.heap.size, 0, none⟩) 1 1] (w'.alloc (.cells #[.int .i64 7] 3)) fun e w'' => e = .returned (.int .i64 0) ∧ Fr (w'.alloc (.cells #[.int .i64 7] 3)) w'') := Lib.hid fun w' hw => by
      have h := HM.out (.slice (some ⟨w'.heap.size, 0, none⟩) 1 1) (relF geo) [7] (w'.alloc (.cells #[.int .i64 7] 3)) (hw.trans (Fr.alloc _ _)) (relF_ok _ _) (FB.of (ok_lit (by decide) (by decide)) (by decide)) (sl_lit w' [7]) (ok_lit (by decide) (by decide))
      rw [ex3] at h
      exact h
    have M4 : Hid (∀ w', Fr wb w' → Calls Try.prog 21 #[u1, .slice none 0 0, (yank).v, .slice (some ⟨w'.heap.size, 0, none⟩) 1 1] (w'.alloc (.cells #[.int .i64 7] 3)) fun e w'' => e = .returned (.int .i64 23) ∧ Fr (w'.alloc (.cells #[.int .i64 7] 3)) w'') := Lib.hid fun w' hw => by
      have h := HM.out (.slice (some ⟨w'.heap.size, 0, none⟩) 1 1) (yank) [7] (w'.alloc (.cells #[.int .i64 7] 3)) (hw.trans (Fr.alloc _ _)) (mkF_ok _ _ _ _ _ _ _ _ (Sl.nil _ _ _)) (FB.of (ok_lit (by decide) (by decide)) (by decide)) (sl_lit w' [7]) (ok_lit (by decide) (by decide))
      rw [ex4] at h
      exact h
    have M5 : Hid (∀ w', Fr wb w' → Calls Try.prog 21 #[u1, .slice none 0 0, (yank).v, .slice (some ⟨w'.heap.size, 0, none⟩) 3 3] (w'.alloc (.cells #[.int .i64 3, .int .i64 9, .int .i64 1] 3)) fun e w'' => e = .returned (.int .i64 0) ∧ Fr (w'.alloc (.cells #[.int .i64 3, .int .i64 9, .int .i64 1] 3)) w'') := Lib.hid fun w' hw => by
      have h := HM.out (.slice (some ⟨w'.heap.size, 0, none⟩) 3 3) (yank) [3, 9, 1] (w'.alloc (.cells #[.int .i64 3, .int .i64 9, .int .i64 1] 3)) (hw.trans (Fr.alloc _ _)) (mkF_ok _ _ _ _ _ _ _ _ (Sl.nil _ _ _)) (FB.of (ok_lit (by decide) (by decide)) (by decide)) (sl_lit w' [3, 9, 1]) (ok_lit (by decide) (by decide))
      rw [ex5] at h
      exact h
    have M6 : Hid (∀ w', Fr wb w' → Calls Try.prog 21 #[u1, .slice none 0 0, (relF base).v, .slice (some ⟨w'.heap.size, 0, none⟩) 1 1] (w'.alloc (.cells #[.int .i64 1] 3)) fun e w'' => e = .returned (.int .i64 24) ∧ Fr (w'.alloc (.cells #[.int .i64 1] 3)) w'') := Lib.hid fun w' hw => by
      have h := HM.out (.slice (some ⟨w'.heap.size, 0, none⟩) 1 1) (relF base) [1] (w'.alloc (.cells #[.int .i64 1] 3)) (hw.trans (Fr.alloc _ _)) (relF_ok _ _) (FB.of (ok_lit (by decide) (by decide)) (by decide)) (sl_lit w' [1]) (ok_lit (by decide) (by decide))
      rw [ex6] at h
      exact h
    have M7 : Hid (∀ w', Fr wb w' → Calls Try.prog 21 #[u1, .slice none 0 0, (m45 (.slice (some ⟨w'.heap.size, 0, none⟩) 2 2)).v, .slice (some ⟨w'.heap.size + 1, 0, none⟩) 1 1] ((w'.alloc (.cells #[.int .i64 4, .int .i64 5] 3)).alloc (.cells #[.int .i64 5] 3)) fun e w'' => e = .returned (.int .i64 0) ∧ Fr ((w'.alloc (.cells #[.int .i64 4, .int .i64 5] 3)).alloc (.cells #[.int .i64 5] 3)) w'') := Lib.hid fun w' hw => by
      have h2 := sl_lit (w'.alloc (.cells #[.int .i64 4, .int .i64 5] 3)) [5]
      rw [show (w'.alloc (.cells #[.int .i64 4, .int .i64 5] 3)).heap.size = w'.heap.size + 1 by simp] at h2
      have h := HM.out (.slice (some ⟨w'.heap.size + 1, 0, none⟩) 1 1) (m45 (.slice (some ⟨w'.heap.size, 0, none⟩) 2 2)) [5] ((w'.alloc (.cells #[.int .i64 4, .int .i64 5] 3)).alloc (.cells #[.int .i64 5] 3)) (hw.trans ((Fr.alloc _ _).trans (Fr.alloc _ _))) (mkF_ok _ _ _ _ _ _ _ _ ((sl_lit w' [4, 5]).fr (Fr.alloc _ _))) (FB.of (show Ok [4, 5] from ok_lit (by decide) (by decide)) (by show 4 ≤ 1000000; decide)) h2 (ok_lit (by decide) (by decide))
      rw [ex7] at h
      exact h
    have HO := Lib.hid fun w' (hw : Fr wb w') => owner_any u1 (exL k1 k2) geo w' (HS.out.fr hw) HLB.out
    have HD := Lib.hid fun w' (hw : Fr wb w') => delegates_any u1 (exL k1 k2) geo w' (HS.out.fr hw) HLB.out
    have HCH := Lib.hid fun w' (hw : Fr wb w') => chain_any u1 (exL k1 k2) geo w' (HS.out.fr hw) HLB.out.len
    have HAD := Lib.hid fun sv w' (hw : Fr wb w') (h : SsSl w' sv [[1, 3], [2]]) => admit_any u1 (.slice none 0 0) sv (exL k1 k2) [] [[1, 3], [2]] w' (HS.out.fr hw) HLB.out (Sl.nil _ _ _) Ok.nil h ⟨by decide, fun q hq => by
      simp only [List.mem_cons, List.not_mem_nil, or_false] at hq
      rcases hq with rfl | rfl <;> exact ok_lit (by decide) (by decide)⟩
    rw [ex8] at HO
    rw [ex9] at HD
    rw [ex10] at HAD
    unfold ChP at HCH
    rw [ex11] at HCH
    dsimp only [OwnP, DlgP, ndO, tlO, kyO, mkF, Option.isSome_some] at HO HD
    clear HM HLB
    go_upto_region 2 with fail
    go_upto_region 2 with fail
    go_cut [2] (fun s2 wx => ∃ B, s2 = .pointer (some ⟨B, 0, none⟩) ∧ Hid (FtAt wx B 0 yank) ∧ Hid (Fr wb wx))
    case first =>
      have HY := Lib.hid (FtAt.new (w := wb) (f := yank) (mkF_ok _ _ _ _ _ _ _ _ (Sl.nil _ _ _)) 39)
      clear M1 M2 M3 M4 M5 M6 M7 HO HD HCH HAD
      go_wp2_with (refine wpList_store_row rfl 39 (.tmp 2) (.tmp 20) rfl wb.heap.size yank.cs.toArray rfl rfl 39 _ (heap_alloc_last _ _) infoF1 rfl HY.out.ok.all ?_; rw [World.setRow_alloc_new])
      go_meet
      exact ⟨_, rfl, HY, Lib.hid (Fr.alloc _ _)⟩
    case rest =>
    obtain ⟨B, rfl, HY, HF⟩ := hcut
    go_upto_region 3 with fail
    go_cut [3] (fun s3 wx => s3 = .bool true ∧ Hid (FtAt wx B 0 yank) ∧ Hid (Fr wb wx))
    case first =>
      clear M4 M5 M6 M7 HO HD HCH HAD
      go_wp2_with fail
      refine (release_any geo _).mono ?_
      rintro e wn ⟨rfl, hf⟩
      have HF := Lib.hid (HF.out.trans hf)
      have HY := Lib.hid (HY.out.fr hf)
      clear hf
      go_wp2_with fail
      refine (M1.out _ HF.out).mono ?_
      rintro e wn ⟨rfl, hf⟩
      have HF := Lib.hid ((HF.out.trans (Fr.alloc _ _)).trans hf)
      have HY := Lib.hid (HY.out.fr ((Fr.alloc _ _).trans hf))
      clear hf
      go_wp2_with fail
      refine (release_any geo _).mono ?_
      rintro e wn ⟨rfl, hf⟩
      have HF := Lib.hid (HF.out.trans hf)
      have HY := Lib.hid (HY.out.fr hf)
      clear hf
      go_wp2_with fail
      refine (M2.out _ HF.out).mono ?_
      rintro e wn ⟨rfl, hf⟩
      have HF := Lib.hid ((HF.out.trans (Fr.alloc _ _)).trans hf)
      have HY := Lib.hid (HY.out.fr ((Fr.alloc _ _).trans hf))
      clear hf
      go_wp2_with fail
      refine (release_any geo _).mono ?_
      rintro e wn ⟨rfl, hf⟩
      have HF := Lib.hid (HF.out.trans hf)
      have HY := Lib.hid (HY.out.fr hf)
      clear hf
      go_wp2_with fail
      refine (M3.out _ HF.out).mono ?_
      rintro e wn ⟨rfl, hf⟩
      have HF := Lib.hid ((HF.out.trans (Fr.alloc _ _)).trans hf)
      have HY := Lib.hid (HY.out.fr ((Fr.alloc _ _).trans hf))
      clear hf
      go_wp2_with fail
      go_meet
      exact ⟨rfl, HY, HF⟩
    case rest =>
    obtain ⟨rfl, HY, HF⟩ := hcut
    clear M1 M2 M3
    go_upto_region 4 with fail
    go_cut [4] (fun s4 wx => s4 = .bool true ∧ Hid (FtAt wx B 0 yank) ∧ Hid (Fr wb wx))
    case first =>
      clear M7 HO HD HCH HAD
      go_wp2_with (refine wpList_load_fact (by rfl) (.tmp 2) rfl B 0 yank (by rfl) HY.out ?_)
      refine (M4.out _ HF.out).mono ?_
      rintro e wn ⟨rfl, hf⟩
      have HF := Lib.hid ((HF.out.trans (Fr.alloc _ _)).trans hf)
      have HY := Lib.hid (HY.out.fr ((Fr.alloc _ _).trans hf))
      clear hf
      go_wp2_with (refine wpList_load_fact (by rfl) (.tmp 2) rfl B 0 yank (by rfl) HY.out ?_)
      refine (M5.out _ HF.out).mono ?_
      rintro e wn ⟨rfl, hf⟩
      have HF := Lib.hid ((HF.out.trans (Fr.alloc _ _)).trans hf)
      have HY := Lib.hid (HY.out.fr ((Fr.alloc _ _).trans hf))
      clear hf
      go_wp2_with fail
      refine (release_any base _).mono ?_
      rintro e wn ⟨rfl, hf⟩
      have HF := Lib.hid (HF.out.trans hf)
      have HY := Lib.hid (HY.out.fr hf)
      clear hf
      go_wp2_with fail
      refine (M6.out _ HF.out).mono ?_
      rintro e wn ⟨rfl, hf⟩
      have HF := Lib.hid ((HF.out.trans (Fr.alloc _ _)).trans hf)
      have HY := Lib.hid (HY.out.fr ((Fr.alloc _ _).trans hf))
      clear hf
      go_wp2_with fail
      go_meet
      exact ⟨rfl, HY, HF⟩
    case rest =>
    obtain ⟨rfl, HY, HF⟩ := hcut
    clear M4 M5 M6
    go_upto_region 5 with fail
    go_cut [5] (fun s5 wx => s5 = .bool true ∧ Hid (FtAt wx B 0 yank) ∧ Hid (Fr wb wx))
    case first =>
      clear HO HD HCH HAD
      go_wp2_with fail
      refine (M7.out _ HF.out).mono ?_
      rintro e wn ⟨rfl, hf⟩
      have HF := Lib.hid ((HF.out.trans ((Fr.alloc _ _).trans (Fr.alloc _ _))).trans hf)
      have HY := Lib.hid (HY.out.fr (((Fr.alloc _ _).trans (Fr.alloc _ _)).trans hf))
      clear hf
      go_wp2_with fail
      go_meet
      exact ⟨rfl, HY, HF⟩
    case rest =>
    obtain ⟨rfl, HY, HF⟩ := hcut
    clear M7
    go_upto_region 6 with fail
    go_cut [6, 7, 8] (fun s6 s7 s8 wx => Hid (Sl wx s6 [1, 2, 3]) ∧ s7 = .int .i64 2 ∧ s8 = .bool true ∧ Hid (FtAt wx B 0 yank) ∧ Hid (Fr wb wx))
    case first =>
      clear HD HCH HAD
      go_wp2_with fail
      refine (HO.out _ HF.out).mono ?_
      rintro e wn ⟨kv, rfl, hk, hf⟩
      have HK := Lib.hid hk
      have HF := Lib.hid (HF.out.trans hf)
      have HY := Lib.hid (HY.out.fr hf)
      clear hf hk
      go_wp2_with fail
      go_meet
      exact ⟨HK, rfl, rfl, HY, HF⟩
    case rest =>
    obtain ⟨HK6, rfl, rfl, HY, HF⟩ := hcut
    clear HO
    obtain ⟨k6, hk6⟩ : ∃ k, k = u6 := ⟨_, rfl⟩
    subst hk6
    go_upto_region 7 with fail
    go_cut [9, 10, 11] (fun s9 s10 s11 wx => Hid (Sl wx k6 [1, 2, 3]) ∧ Hid (Sl wx s9 [7]) ∧ s10 = .int .i64 1 ∧ s11 = .int .i64 5 ∧ Hid (FtAt wx B 0 yank) ∧ Hid (Fr wb wx))
    case first =>
      clear HCH HAD
      go_wp2_with fail
      refine (HD.out _ HF.out).mono ?_
      rintro e wn ⟨kv, rfl, hk, hf⟩
      have HK := Lib.hid hk
      have HK6 := Lib.hid (HK6.out.fr hf)
      have HF := Lib.hid (HF.out.trans hf)
      have HY := Lib.hid (HY.out.fr hf)
      clear hf hk
      go_wp2_with fail
      go_meet
      exact ⟨HK6, HK, rfl, rfl, HY, HF⟩
    case rest =>
    obtain ⟨HK6, HK9, rfl, rfl, HY, HF⟩ := hcut
    clear HD
    obtain ⟨k9, hk9⟩ : ∃ k, k = u9 := ⟨_, rfl⟩
    subst hk9
    go_upto_region 8 with fail
    go_cut [12, 13] (fun s12 s13 wx => Hid (Sl wx k6 [1, 2, 3]) ∧ Hid (Sl wx k9 [7]) ∧ s12 = .int .i64 1 ∧ s13 = .int .i64 23 ∧ Hid (FtAt wx B 0 yank) ∧ Hid (Fr wb wx))
    case first =>
      clear HCH
      go_wp2_with fail
      refine (HAD.out _ _ ?_ ?_).mono ?_
      · exact HF.out.trans (((Fr.alloc _ _).trans (Fr.alloc _ _)).trans (Fr.alloc _ _))
      · exact ss_lit2 wc [1, 3] [2]
      rintro e wn ⟨rfl, hf⟩
      have hf9 := (((Fr.alloc wc _).trans (Fr.alloc _ _)).trans (Fr.alloc _ _)).trans hf
      have HK6 := Lib.hid (HK6.out.fr hf9)
      have HK9 := Lib.hid (HK9.out.fr hf9)
      have HF := Lib.hid (HF.out.trans hf9)
      have HY := Lib.hid (HY.out.fr hf9)
      clear hf hf9
      go_wp2_with fail
      go_meet
      exact ⟨HK6, HK9, rfl, rfl, HY, HF⟩
    case rest =>
    obtain ⟨HK6, HK9, rfl, rfl, HY, HF⟩ := hcut
    clear HAD
    go_upto_region 9 with fail
    go_cut [14] (fun s14 wx => s14 = .bool true ∧ Hid (FtAt wx B 0 yank) ∧ Hid (Fr wb wx))
    case first =>
      clear HCH
      go_wp2_with fail
      refine (ints_any _ _ [1, 2, 3] [1, 2, 3] _ (HK6.out.fr (Fr.alloc _ _)) (sl_lit wc [1, 2, 3]) (by decide)).mono ?_
      rintro e wn ⟨rfl, hf⟩
      have hf9 := (Fr.alloc wc _).trans hf
      have HK9 := Lib.hid (HK9.out.fr hf9)
      have HF := Lib.hid (HF.out.trans hf9)
      have HY := Lib.hid (HY.out.fr hf9)
      clear hf hf9
      go_wp2_with fail
      refine (ints_any _ _ [7] [7] _ (HK9.out.fr (Fr.alloc _ _)) (sl_lit wn [7]) (by decide)).mono ?_
      rintro e wm ⟨rfl, hf⟩
      have hf9 := (Fr.alloc wn _).trans hf
      have HF := Lib.hid (HF.out.trans hf9)
      have HY := Lib.hid (HY.out.fr hf9)
      clear hf hf9
      go_wp2_with fail
      go_meet
      exact ⟨rfl, HY, HF⟩
    case rest =>
    obtain ⟨rfl, HY, HF⟩ := hcut
    go_wp2_with fail
    refine (HCH.out _ HF.out).mono ?_
    rintro e wn ⟨kv, rfl, hk, hf⟩
    have HK := Lib.hid hk
    have HF := Lib.hid (HF.out.trans hf)
    clear hf hk
    go_wp2_with fail
    refine (ints_any _ _ [0] [0] _ (HK.out.fr (Fr.alloc _ _)) (sl_lit wn [0]) (by decide)).mono ?_
    rintro e wm ⟨rfl, hf⟩
    have HF := Lib.hid (HF.out.trans ((Fr.alloc wn _).trans hf))
    clear hf
    go_wp2_with fail
    go_ret
    exact ⟨rfl, HF0.out.trans HF.out⟩
end Go.Proofs.Ytddeblcoglhdnaa
