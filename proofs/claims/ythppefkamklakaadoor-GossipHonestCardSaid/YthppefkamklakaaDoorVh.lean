/-
  View: denies, whole; learn.
-/
import Derived.Test.YthppefkamklakaaDoorVg
namespace Go.Proofs.YthppefkamklakaaDoor
open Go.RowKit Go.MapKept Go.Maps Go.WideMaps Go.BigFrame

theorem ok_fits {c : C} (h : okB c = true) : c.fits := by
  have hb := ok_bounds h
  exact ⟨⟨by omega, by omega⟩, ⟨by omega, by omega⟩, ⟨by omega, by omega⟩, by omega⟩
/-- The heads are in order, and can be values. -/
structure HdOk (d : VD) : Prop where
  srt : Srt d.hd
  len : d.hd.length ≤ 100000
  fits : ∀ x ∈ d.hd, x.fits
section
variable {W w : World} {B R : Nat} {k : Int} {l : List Sg} {d : VD} {U : Thing}
theorem vdenies (h : Has W w ((ViewT B R k l d).sep U)) (hd : HdOk d) (c : C) (hc : okB c = true) :
    Calls Tryd.prog 28 #[.pointer (some ⟨B, 0, none⟩), c.v] w fun e w' => e = .returned (.bool (dny d c)) ∧ Fr w w' := by
  have hf := ok_fits hc
  have hb := ok_bounds hc
  obtain ⟨ck, n, t, s⟩ := c
  by_cases h0 : ck = 0
  · subst h0
    rw [dny_0 rfl]
    exact vdenies_0 h n t s hf.2.1 hf.2.2.2
  · by_cases h1 : ck = 1
    · subst h1
      rw [dny_1 rfl]
      exact vdenies_1 h hd.srt (by have := hd.len; omega) hd.fits n t s hf
    · by_cases h2 : ck = 2
      · subst h2
        rw [dny_2 rfl]
        exact vdenies_2 h n t s (by have : s.length ≤ 20000 := hb.2.2.2.2.2.2; unfold maxLen; omega)
      · rw [dny_o (c := ⟨ck, n, t, s⟩) h0 h1 h2]
        exact vdenies_o ⟨ck, n, t, s⟩ h0 h1 h2
end

/-! ### Parts of a view that change -/
section
variable {W w : World} {p : VQ} {B R : Nat} {k : Int} {l : List Sg} {d : VD} {U : Thing}
theorem VP.rest (h : VP W w p B R k l d U) : Has W w U := (Has.right (Has.right (Has.right (Has.right (Has.right (Has.right (Has.right h)))))))
theorem VP.mmput (h : VP W w p B R k l d U) (i : Int) (hi : Wm.inInt i) : ∃ w' n', (Instr.mapUpdate 83 (.map (some p.mM)) (.int .i64 i) (.bool true)).run Tryd.prog w = .ok () w' ∧
    VP W w' { p with n1 := n' } B R k l { d with mm := fun m => if m = i then true else d.mm m } U := by
  obtain ⟨w', h1, h2⟩ := (Has.map h fun _ h => sp3 h).mbput (m' := mmV { d with mm := fun m => if m = i then true else d.mm m }) i hi (.bool true) (fun t => by
    show (if (if t = i then true else d.mm t) = true then some (Value.bool true) else none) = _
    by_cases e : t = i
    · simp [e]
    · simp [e, mmV]) rfl
  exact ⟨w', if mmV d i = none then p.n1 + 1 else p.n1, h1, h2.map fun _ h => ps3 h⟩
theorem VP.enput (h : VP W w p B R k l d U) (i : Int) (hi : Wm.inInt i) (t : Txt) : ∃ w' n', (Instr.mapUpdate 84 (.map (some p.mE)) (.int .i64 i) (.string (S t))).run Tryd.prog w = .ok () w' ∧
    VP W w' { p with n2 := n' } B R k l { d with en := fun j => if j = i then some t else d.en j } U := by
  obtain ⟨w', h1, h2⟩ := (Has.map h fun _ h => sp4 h).meput (m' := enV { d with en := fun j => if j = i then some t else d.en j }) i hi (.string (S t)) (fun j => by
    show (if j = i then some t else d.en j).map _ = _
    by_cases e : j = i
    · simp [e]
    · simp [e, enV]) rfl
  exact ⟨w', if enV d i = none then p.n2 + 1 else p.n2, h1, h2.map fun _ h => ps4 h⟩
theorem VP.fiput (h : VP W w p B R k l d U) (t : Txt) (ht : t.length ≤ maxLen) (n : Int) : ∃ w' n', (Instr.mapUpdate 59 (.map (some p.mF)) (.string (S t)) (.int .i64 n)).run Tryd.prog w = .ok () w' ∧
    VP W w' { p with n3 := n' } B R k l { d with fi := fun u => if u = t then some n else d.fi u } U := by
  obtain ⟨w', h1, h2⟩ := (Has.map h fun _ h => sp5 h).mput (m' := fiV { d with fi := fun u => if u = t then some n else d.fi u }) t ht (.int .i64 n) (fun j => by
    show (if j = t then some n else d.fi j).map _ = _
    by_cases e : j = t
    · simp [e]
    · simp [e, fiV]) rfl
  exact ⟨w', if fiV d t = none then p.n3 + 1 else p.n3, h1, h2.map fun _ h => ps5 h⟩
theorem VP.abput (h : VP W w p B R k l d U) (t : Txt) (ht : t.length ≤ maxLen) (n : Int) : ∃ w' n', (Instr.mapUpdate 59 (.map (some p.mA)) (.string (S t)) (.int .i64 n)).run Tryd.prog w = .ok () w' ∧
    VP W w' { p with n4 := n' } B R k l { d with ab := fun u => if u = t then some n else d.ab u } U := by
  obtain ⟨w', h1, h2⟩ := (Has.map h fun _ h => sp6 h).mput (m' := abV { d with ab := fun u => if u = t then some n else d.ab u }) t ht (.int .i64 n) (fun j => by
    show (if j = t then some n else d.ab j).map _ = _
    by_cases e : j = t
    · simp [e]
    · simp [e, abV]) rfl
  exact ⟨w', if abV d t = none then p.n4 + 1 else p.n4, h1, h2.map fun _ h => ps6 h⟩
/-- A claim that is boxed beside a view. -/
def CB (T : Nat) (c : C) : Thing := BoxT 68 T #[.int .i64 c.k, .int .i64 c.n, .int .i64 c.t, .string (S c.s)]
theorem VP.cb {T : Nat} {c : C} (h : VP W w p B R k l d ((CB T c).sep U)) : CAt w T c := by
  have hb := Has.boxed h.rest
  refine ⟨?_, ?_, ?_, ?_⟩ <;> (rw [Lib.cell_of_heap hb]; rfl)
theorem Has.vbox (h : Has W w ((ViewT B R k l d).sep U)) (c : C) : Has W (w.alloc (.cells #[.int .i64 c.k, .int .i64 c.n, .int .i64 c.t, .string (S c.s)] 68)) ((ViewT B R k l d).sep ((CB w.heap.size c).sep U)) :=
  (h.box 68 #[.int .i64 c.k, .int .i64 c.n, .int .i64 c.t, .string (S c.s)]).turn
end

/-! ### learn -/
section
variable {W w : World} {B R : Nat} {k : Int} {l : List Sg} {d : VD} {U : Thing}
set_option maxHeartbeats 1000000 in
set_option maxRecDepth 100000 in
theorem vlearn_2 (h : Has W w ((ViewT B R k l d).sep U)) (n t : Int) (s : Txt) (hs : s.length ≤ maxLen) :
    Calls Tryd.prog 29 #[.pointer (some ⟨B, 0, none⟩), .agg #[.int .i64 2, .int .i64 n, .int .i64 t, .string (S s)]] w fun e w' => e = .returned (.tuple #[]) ∧ Has W w' ((ViewT B R k l (lrn d ⟨2, n, t, s⟩)).sep U) := by
  have h1 := h.vbox ⟨2, n, t, s⟩
  obtain ⟨p, hp⟩ := (h1.fr (Fr.drew _)).vopen
  have c6 : (w.alloc (.cells #[.int .i64 2, .int .i64 n, .int .i64 t, .string (S s)] 68)).cell? ⟨B, 6, none⟩ = some (.map (some p.mA)) := hp.cell 6 (.map (some p.mA)) rfl
  obtain ⟨b0, b1, b2, b3⟩ := (CAt.new w ⟨2, n, t, s⟩)
  simp only at b0 b1 b2 b3
  have hlk := hp.ab.look1 s hs
  have hg : (abV d s).getD (.int .i64 0) = .int .i64 ((d.ab s).getD 0) := by unfold abV; cases d.ab s <;> rfl
  rw [hg] at hlk
  obtain ⟨w', n', hup, hv⟩ := hp.abput s hs (max ((d.ab s).getD 0) n)
  have HV := Lib.hid (show Has W w' ((ViewT B R k l (lrn d ⟨2, n, t, s⟩)).sep U) from by
    rw [lrn_2 rfl]
    exact (VP.close hv).turn.right)
  generalize (d.ab s).getD 0 = m at *
  generalize p.mA = MA at *
  clear h h1 hp hg hv
  go_enter Tryd.func29, Tryd.ntmps29
  go_upto_region 11 with fail
  generalize (w.alloc (.cells #[.int .i64 2, .int .i64 n, .int .i64 t, .string (S s)] 68)) = w1 at *
  refine wp_region_still_tail 16 (by kernel_rfl) (by kernel_rfl) ?_
  simp only [List.take_succ_cons, List.take_zero, List.drop_succ_cons, List.drop_zero]
  iterate 16 still_step
  refine wpStill_nil ?_
  try simp only [Act.put, List.setIfInBounds_toArray, List.set_cons_zero, List.set_cons_succ]
  refine wpList_map_store rfl (.tmp 65) (.tmp 67) (.tmp 77) _ rfl MA _ _ rfl rfl rfl hup rfl ?_
  go_wp2_with fail
  go_end0
  exact ⟨rfl, HV.out⟩
theorem vlearn_x (h : Has W w ((ViewT B R k l d).sep U)) (c : C) (h0 : c.k ≠ 0) (h1 : c.k ≠ 1) (h2 : c.k ≠ 2) :
    Calls Tryd.prog 29 #[.pointer (some ⟨B, 0, none⟩), c.v] w fun e w' => e = .returned (.tuple #[]) ∧ Has W w' ((ViewT B R k l (lrn d c)).sep U) := by
  have hl : lrn d c = d := by unfold lrn; rw [if_neg h0, if_neg h1, if_neg h2]
  rw [hl]
  have HH := Lib.hid (h.fr (Fr.alloc w (.cells #[.int .i64 c.k, .int .i64 c.n, .int .i64 c.t, .string (S c.s)] 68)))
  obtain ⟨a0, a1, a2, a3⟩ := CAt.new w c
  have e0 : (c.k == 0) = false := by simpa using h0
  have e1 : (c.k == 1) = false := by simpa using h1
  have e2 : (c.k == 2) = false := by simpa using h2
  unfold C.v
  clear h0 h1 h2 hl h
  go_enter Tryd.func29, Tryd.ntmps29
  go_wp2_with fail
  go_end0
  exact ⟨rfl, HH.out⟩
set_option maxHeartbeats 2000000 in
set_option maxRecDepth 100000 in
theorem vlearn_0 (h : Has W w ((ViewT B R k l d).sep U)) (n t : Int) (s : Txt) (hn : Wm.inInt n) (hs : s.length ≤ 9223372036854775807) :
    Calls Tryd.prog 29 #[.pointer (some ⟨B, 0, none⟩), .agg #[.int .i64 0, .int .i64 n, .int .i64 t, .string (S s)]] w fun e w' => e = .returned (.tuple #[]) ∧ Has W w' ((ViewT B R k l (lrn d ⟨0, n, t, s⟩)).sep U) := by
  have h1 := h.vbox ⟨0, n, t, s⟩
  obtain ⟨p, hp⟩ := (h1.fr (Fr.drew _)).vopen
  have c4 : (w.alloc (.cells #[.int .i64 0, .int .i64 n, .int .i64 t, .string (S s)] 68)).cell? ⟨B, 4, none⟩ = some (.map (some p.mE)) := hp.cell 4 (.map (some p.mE)) rfl
  obtain ⟨b0, b1, b2, b3⟩ := (CAt.new w ⟨0, n, t, s⟩)
  simp only at b0 b1 b2 b3
  have HK := Lib.hid (fun w' => keyOf_any ⟨0, n, t, s⟩ w' hs)
  unfold C.v at HK
  simp only at HK
  have hkl : (keyT s).length ≤ maxLen := by have := key_lenT s; unfold maxLen; omega
  have hL := lrn_0 (d := d) (c := ⟨0, n, t, s⟩) rfl
  have hN : fiN d ⟨0, n, t, s⟩ = (match d.fi (keyT s) with | none => true | some m => decide (n < m)) := by unfold fiN; rfl
  simp only at hL
  obtain ⟨D', hD'⟩ : ∃ D', D' = lrn d ⟨0, n, t, s⟩ := ⟨_, rfl⟩
  rw [← hD']
  rw [← hD'] at hL
  obtain ⟨ky, hky⟩ : ∃ ky, ky = keyT s := ⟨_, rfl⟩
  rw [← hky] at HK hkl hL hN
  obtain ⟨w2, n', hup, hv⟩ := hp.enput n hn s
  obtain ⟨T, hT⟩ : ∃ T, T = w.heap.size := ⟨_, rfl⟩
  rw [← hT] at b0 b1 b2 b3 hv
  have HT := Lib.hid hT
  obtain ⟨d1, hd1⟩ : ∃ d1 : VD, d1 = { d with en := fun j => if j = n then some s else d.en j } := ⟨_, rfl⟩
  rw [← hd1] at hv
  have hfi : d1.fi = d.fi := by rw [hd1]
  have HD : Hid ((fiN d ⟨0, n, t, s⟩ = true → D' = { d1 with fi := fun u => if u = ky then some n else d1.fi u }) ∧ (fiN d ⟨0, n, t, s⟩ = false → D' = d1)) := Lib.hid ⟨fun e => by rw [hL, e, hd1]; rfl, fun e => by rw [hL, e, hd1]; rfl⟩
  rw [hN, ← hfi] at HD
  have HV := Lib.hid hv
  have HKL := Lib.hid hkl
  have c5 := hv.cell 5 (.map (some p.mF)) rfl
  obtain ⟨a0, a1, a2, a3⟩ := hv.cb
  simp only at a0 a1 a2 a3
  clear h h1 hp hv hky hd1 hfi hT hkl hL hN hD'
  generalize p.mE = ME at *
  go_enter Tryd.func29, Tryd.ntmps29
  go_upto_region 3 with fail
  rw [← HT.out]
  generalize (w.alloc (.cells #[.int .i64 0, .int .i64 n, .int .i64 t, .string (S s)] 68)) = w1 at *
  refine wp_region_still_tail 8 (by kernel_rfl) (by kernel_rfl) ?_
  simp only [List.take_succ_cons, List.take_zero, List.drop_succ_cons, List.drop_zero]
  iterate 8 still_step
  refine wpStill_nil ?_
  try simp only [Act.put, List.setIfInBounds_toArray, List.set_cons_zero, List.set_cons_succ]
  refine wpList_map_store rfl (.tmp 14) (.tmp 16) (.tmp 18) _ rfl ME _ _ rfl rfl rfl hup rfl ?_
  clear b0 b1 b2 b3 c4 hup
  go_upto_region 5 with (go_at_call 48; refine (HK.out _).mono ?_; rintro e w3 ⟨rfl, hf3⟩)
  have HV3 := Lib.hid (HV.out.fr hf3)
  have c5' := hf3.cell c5
  have a1' := hf3.cell a1
  clear c5 a0 a1 a2 a3 HV hf3 HK
  have hlk := HV3.out.fi.look ky HKL.out
  unfold fiV at hlk
  obtain ⟨w4, n4, hup, hv4⟩ := (HV3.out.fr (Fr.drew _)).fiput ky HKL.out n
  have HV4 := Lib.hid (show Has W w4 ((ViewT B R k l { d1 with fi := fun u => if u = ky then some n else d1.fi u }).sep U) from (VP.close hv4).turn.right)
  have HV5 := Lib.hid (show Has W w3 ((ViewT B R k l d1).sep U) from (VP.close HV3.out).turn.right)
  clear hv4
  simp only at hlk hup
  generalize p.mF = MF at *
  cases ho : d1.fi ky with
  | none =>
    rw [ho] at hlk HD
    have HE := Lib.hid (HD.out.1 rfl)
    clear ho HD
    go_upto_region 7 with fail
    refine wp_region_still_tail 7 (by kernel_rfl) (by kernel_rfl) ?_
    simp only [List.take_succ_cons, List.take_zero, List.drop_succ_cons, List.drop_zero]
    iterate 7 still_step
    refine wpStill_nil ?_
    try simp only [Act.put, List.setIfInBounds_toArray, List.set_cons_zero, List.set_cons_succ]
    refine wpList_map_store rfl (.tmp 41) (.tmp 42) (.tmp 44) _ rfl MF _ _ rfl rfl rfl hup rfl ?_
    go_wp2_with fail
    all_goals go_end0
    all_goals exact ⟨rfl, by rw [HE.out]; exact HV4.out⟩
  | some m =>
    rw [ho] at hlk HD
    clear ho
    by_cases hlt : n < m
    · have HE := Lib.hid (HD.out.1 (decide_eq_true hlt))
      clear HD
      go_upto_region 7 with fail
      refine wp_region_still_tail 7 (by kernel_rfl) (by kernel_rfl) ?_
      simp only [List.take_succ_cons, List.take_zero, List.drop_succ_cons, List.drop_zero]
      iterate 7 still_step
      refine wpStill_nil ?_
      try simp only [Act.put, List.setIfInBounds_toArray, List.set_cons_zero, List.set_cons_succ]
      refine wpList_map_store rfl (.tmp 41) (.tmp 42) (.tmp 44) _ rfl MF _ _ rfl rfl rfl hup rfl ?_
      go_wp2_with fail
      all_goals go_end0
      all_goals exact ⟨rfl, by rw [HE.out]; exact HV4.out⟩
    · have HE := Lib.hid (HD.out.2 (decide_eq_false hlt))
      clear HD
      go_wp2_with fail
      all_goals go_end0
      all_goals exact ⟨rfl, by rw [HE.out]; exact HV5.out⟩
end
end Go.Proofs.YthppefkamklakaaDoor
