/-
  Gossip: Meet.
-/
import Derived.Test.YthppefkamklakaaDoorEad
namespace Go.Proofs.YthppefkamklakaaDoor
open Go.RowKit Go.MapKept Go.Maps Go.WideMaps

/-- The clash of two lists. -/
noncomputable def mtC (la lb : List Sg) : Option (Sg × Sg) := la.findSome? fun x => (clR lb x).map fun y => (x, y)
theorem mtC_some {la lb : List Sg} {j : Nat} (hj : j < la.length) {y : Sg} (h : clR lb la[j] = some y) (h0 : ∀ (m : Nat) (hm : m < la.length), m < j → clR lb la[m] = none) : mtC la lb = some (la[j], y) := by
  unfold mtC
  rw [List.findSome?_eq_some_iff]
  refine ⟨la.take j, la[j], la.drop (j + 1), ?_, by rw [h]; rfl, fun x hx => ?_⟩
  · rw [← List.drop_eq_getElem_cons hj, List.take_append_drop]
  · obtain ⟨m, hm, rfl⟩ := List.getElem_of_mem hx
    rw [List.length_take] at hm
    rw [List.getElem_take, h0 m (by omega) (by omega)]; rfl
theorem mtC_none {la lb : List Sg} (h0 : ∀ (m : Nat) (hm : m < la.length), clR lb la[m] = none) : mtC la lb = none := by
  unfold mtC
  rw [List.findSome?_eq_none_iff]
  intro x hx
  obtain ⟨m, hm, rfl⟩ := List.getElem_of_mem hx
  rw [h0 m hm]; rfl
def meetV : Option (Sg × Sg) → Value
  | none => .tuple #[sgV (0, [], 0), sgV (0, [], 0), .bool false]
  | some (x, y) => .tuple #[sgV x, sgV y, .bool true]
/-- What the views have behind a meeting. -/
noncomputable def mtF (q : List Sd) (k : Int) (f : Nat → List Sg) (i j : Nat) : Nat → List Sg := match mtC (f i) (f j) with
  | some _ => f
  | none => up (up f i (fa q k (f i) (f j))) j (fa q k (up f i (fa q k (f i) (f j)) j) (f i))
theorem mtF_some {q : List Sd} {k : Int} {f : Nat → List Sg} {i j : Nat} {x : Sg × Sg} (h : mtC (f i) (f j) = some x) : mtF q k f i j = f := by unfold mtF; rw [h]
theorem mtF_none {q : List Sd} {k : Int} {f : Nat → List Sg} {i j : Nat} (h : mtC (f i) (f j) = none) : mtF q k f i j = up (up f i (fa q k (f i) (f j))) j (fa q k (up f i (fa q k (f i) (f j)) j) (f i)) := by unfold mtF; rw [h]

section
variable {W w : World} {T : (Nat → List Sg) → Thing} {n : Nat} {p : Nat → Nat} {q : List Sd} {k : Int} {f : Nat → List Sg} {U : Thing}
set_option maxRecDepth 100000 in
theorem one_yes (hV : Vs W T n p q k) {i j : Nat} (hi : i < n) (hj : j < n) (h : Has W w ((T f).sep U)) :
    Calls Tryd.prog 33 #[.pointer (some ⟨p i, 0, none⟩), .pointer (some ⟨p j, 0, none⟩)] w fun e w' => e = .returned (.bool true) ∧ Fr w w' := by
  have HA := Lib.hid (hV.key i hi f w U h)
  have HB := Lib.hid (hV.key j hj f w U h)
  generalize p i = P at *
  generalize p j = Q at *
  clear hV hi hj h
  go_enter Tryd.func33, Tryd.ntmps33
  go_wp2_with (first
    | (go_at_call 53; have := M1.out; with_reducible refine HB.out.mono ?_; rintro e w2 ⟨rfl, rfl⟩)
    | (go_at_call 53; with_reducible refine HA.out.mono ?_; rintro e w1 ⟨rfl, rfl⟩; have M1 := Lib.hid True.intro))
  go_ret
  exact ⟨rfl, Fr.refl _⟩
set_option maxRecDepth 100000 in
theorem one_no (a b : Option Addr) (w : World) (h : a = none ∨ b = none) : Calls Tryd.prog 33 #[.pointer a, .pointer b] w fun e w' => e = .returned (.bool false) ∧ Fr w w' := by
  cases a with
  | none =>
    clear h
    go_enter Tryd.func33, Tryd.ntmps33
    go_wp2_with fail
    go_ret
    exact ⟨rfl, Fr.refl _⟩
  | some a =>
    obtain rfl : b = none := by
      rcases h with h | h
      · exact absurd h (by simp)
      · exact h
    clear h
    go_enter Tryd.func33, Tryd.ntmps33
    go_wp2_with fail
    go_ret
    exact ⟨rfl, Fr.refl _⟩
theorem Has.box_ne {t1 t2 : TypeId} {B1 B2 : Nat} {C1 C2 : Array Value} (h : Has W w ((BoxT t1 B1 C1).sep ((BoxT t2 B2 C2).sep U))) : B1 ≠ B2 := by
  obtain ⟨_, O, ⟨O1, O2, h1, ⟨O3, O4, h3, _, _, h5⟩, h6, _⟩, _⟩ := h
  rintro rfl
  exact h6 B1 ((h1.2 B1).2 rfl) ((h5 B1).2 (.inl ((h3.2 B1).2 rfl)))
/-- Two results are written, the first one first. -/
theorem shut2 {t : TypeId} {B : Nat} {a0 a1 a2 b0 b1 b2 : Value} (h : Has W w ((BoxT t (B + 1) #[b0, b1, b2]).sep ((BoxT t B #[a0, a1, a2]).sep U))) (u0 u1 u2 v0 v1 v2 : Value) :
    ∃ w4, w4 = (((((w.setCell ⟨B, 0, none⟩ u0).setCell ⟨B, 1, none⟩ u1).setCell ⟨B, 2, none⟩ u2).setCell ⟨B + 1, 0, none⟩ v0).setCell ⟨B + 1, 1, none⟩ v1).setCell ⟨B + 1, 2, none⟩ v2 ∧ Has W w4 U ∧
      (w4.cell? ⟨B, 0, none⟩ = some u0 ∧ w4.cell? ⟨B, 1, none⟩ = some u1 ∧ w4.cell? ⟨B, 2, none⟩ = some u2) ∧ (w4.cell? ⟨B + 1, 0, none⟩ = some v0 ∧ w4.cell? ⟨B + 1, 1, none⟩ = some v1 ∧ w4.cell? ⟨B + 1, 2, none⟩ = some v2) := by
  have h1 := ((((((h.turn.set 0 u0).set 1 u1).set 2 u2).turn.set 0 v0).set 1 v1).set 2 v2)
  exact ⟨_, rfl, h1.right.right, ⟨cellOf h1.right.boxed rfl, cellOf h1.right.boxed rfl, cellOf h1.right.boxed rfl⟩, ⟨cellOf h1.boxed rfl, cellOf h1.boxed rfl, cellOf h1.boxed rfl⟩⟩
set_option maxHeartbeats 4000000 in
set_option maxRecDepth 100000 in
theorem meet_no (a b : Option Addr) (h : Has W w U) (hab : a = none ∨ b = none) :
    Calls Tryd.prog 16 #[.pointer a, .pointer b] w fun e w' => e = .returned (meetV none) ∧ Has W w' U := by
  have HO := Lib.hid (fun w' => one_no a b w' hab)
  have H0 := Lib.hid ((h.box 37 #[.int .i64 0, .string ⟨#[]⟩, .int .i64 0]).box 37 #[.int .i64 0, .string ⟨#[]⟩, .int .i64 0])
  have hsz : (w.alloc (.cells #[.int .i64 0, .string ⟨#[]⟩, .int .i64 0] 37)).heap.size = w.heap.size + 1 := by simp
  rw [hsz] at H0
  clear hsz h hab
  go_enter Tryd.func16, Tryd.ntmps16
  go_upto_region 1 with fail
  obtain ⟨B, hB⟩ : ∃ B, B = w.heap.size := ⟨_, rfl⟩
  rw [← hB] at H0 ⊢
  clear hB
  generalize (w.alloc (.cells #[.int .i64 0, .string ⟨#[]⟩, .int .i64 0] 37)).alloc (.cells #[.int .i64 0, .string ⟨#[]⟩, .int .i64 0] 37) = w1 at *
  go_upto_region 2 with (go_at_call 33; refine (HO.out _).mono ?_; rintro e w2 ⟨rfl, hf⟩; have H2 := Lib.hid (H0.out.fr hf); clear hf)
  clear H0
  have bx := H2.out.boxed
  have by' := H2.out.right.boxed
  have r0 := cellOf by' (i := 0) (v := .int .i64 0) rfl
  have r1 := cellOf by' (i := 1) (v := .string ⟨#[]⟩) rfl
  have r2 := cellOf by' (i := 2) (v := .int .i64 0) rfl
  have s0 := cellOf bx (i := 0) (v := .int .i64 0) rfl
  have s1 := cellOf bx (i := 1) (v := .string ⟨#[]⟩) rfl
  have s2 := cellOf bx (i := 2) (v := .int .i64 0) rfl
  have z0 := frozenOf by' 0
  have z1 := frozenOf by' 1
  have z2 := frozenOf by' 2
  have y0 := frozenOf bx 0
  have y1 := frozenOf bx 1
  have y2 := frozenOf bx 2
  clear bx by'
  obtain ⟨w4, hw4, h4, ⟨d0, d1, d2⟩, ⟨e0, e1, e2⟩⟩ := shut2 H2.out (.int .i64 0) (.string ⟨#[]⟩) (.int .i64 0) (.int .i64 0) (.string ⟨#[]⟩) (.int .i64 0)
  have HW4 := Lib.hid hw4
  have H4 := Lib.hid h4
  clear hw4 h4
  go_wp2_with fail
  rw [← HW4.out]
  refine bodyPost_ret (v := meetV none) (by simp [results, Tryd.results16, go_sem, d0, d1, d2, e0, e1, e2]; rfl) rfl ⟨rfl, H4.out⟩
set_option maxHeartbeats 8000000 in
set_option maxRecDepth 100000 in
theorem meet_any (hV : Vs W T n p q k) {i j : Nat} (hi : i < n) (hj : j < n) (h : Has W w ((T f).sep U)) (hfi : LOk q k (f i)) (hfj : LOk q k (f j)) :
    Calls Tryd.prog 16 #[.pointer (some ⟨p i, 0, none⟩), .pointer (some ⟨p j, 0, none⟩)] w fun e w' => e = .returned (meetV (mtC (f i) (f j))) ∧ Has W w' ((T (mtF q k f i j)).sep U) := by
  have hli := hfi.len
  have hlj := hfj.len
  have hql := hV.ql
  have HO := Lib.hid (fun w' X (h : Has W w' ((T f).sep X)) => one_yes hV hi hj h)
  have HCA := Lib.hid (fun w' X (h : Has W w' ((T f).sep X)) => hV.claims i hi f w' X h (by omega))
  have HCB := Lib.hid (fun w' X (h : Has W w' ((T f).sep X)) => hV.claims j hj f w' X h (by omega))
  have HCL := Lib.hid (fun w' X (h : Has W w' ((T f).sep X)) s hs => hV.clash j hj f w' X h hfj s hs)
  have HGA := Lib.hid (hfi.gok hV.isKey (by omega))
  have HGB := Lib.hid (hfj.gok hV.isKey (by omega))
  have HTA := Lib.hid (fun w' v X (h : Has W w' ((T f).sep ((RowT 37 3 v (f j).length (sgC (f j))).sep X))) => tell_any hV hi h hfi HGB.out (by omega))
  have HTB := Lib.hid (fun w' v X (h : Has W w' ((T (up f i (fa q k (f i) (f j)))).sep ((RowT 37 3 v (f i).length (sgC (f i))).sep X))) => tell_any hV hj h (by
    by_cases hji : j = i
    · rw [hji, up_at]; exact fa_ok hV.nd _ _ hfi
    · rw [up_ne _ _ hji]; exact hfj) HGA.out (by omega))
  have HSO := Lib.hid (fun m (hm : m < (f i).length) y h h0 => mtC_some (la := f i) (lb := f j) hm (y := y) h h0)
  have HNO := Lib.hid (mtC_none (la := f i) (lb := f j))
  have HFS := Lib.hid (fun x h => mtF_some (q := q) (k := k) (f := f) (i := i) (j := j) (x := x) h)
  have HFN := Lib.hid (mtF_none (q := q) (k := k) (f := f) (i := i) (j := j))
  generalize mtF q k f i j = F2 at *
  generalize up (up f i (fa q k (f i) (f j))) j (fa q k (up f i (fa q k (f i) (f j)) j) (f i)) = F3 at *
  generalize up f i (fa q k (f i) (f j)) = F1 at *
  generalize mtC (f i) (f j) = mc at *
  generalize p i = P at *
  generalize p j = Q at *
  obtain ⟨la, hla⟩ : ∃ la, la = f i := ⟨_, rfl⟩
  obtain ⟨lb, hlb⟩ : ∃ lb, lb = f j := ⟨_, rfl⟩
  rw [← hla] at hli HCA HGA HTB HSO HNO
  rw [← hlb] at hlj HCB HCL HGB HTA HSO HNO
  have H0 := Lib.hid ((h.box 37 #[.int .i64 0, .string ⟨#[]⟩, .int .i64 0]).box 37 #[.int .i64 0, .string ⟨#[]⟩, .int .i64 0])
  have hsz : (w.alloc (.cells #[.int .i64 0, .string ⟨#[]⟩, .int .i64 0] 37)).heap.size = w.heap.size + 1 := by simp
  rw [hsz] at H0
  clear hsz h hV hfi hfj hla hlb hi hj
  go_enter Tryd.func16, Tryd.ntmps16
  go_upto_region 1 with fail
  obtain ⟨B, hB⟩ : ∃ B, B = w.heap.size := ⟨_, rfl⟩
  rw [← hB] at H0 ⊢
  clear hB
  generalize (w.alloc (.cells #[.int .i64 0, .string ⟨#[]⟩, .int .i64 0] 37)).alloc (.cells #[.int .i64 0, .string ⟨#[]⟩, .int .i64 0] 37) = w1 at *
  replace H0 := Lib.hid (H0.out.pull3)
  go_upto_region 3 with (go_at_call 33; refine (HO.out _ _ H0.out).mono ?_; rintro e w2 ⟨rfl, hf⟩; have H2 := Lib.hid (H0.out.fr hf); clear hf)
  clear H0 HO
  go_upto_region 4 with (first
    | (go_at_call 17; have := H3.out; refine (HCB.out _ _ H3.out.turn).mono ?_; rintro e w4 ⟨vb, rfl, hvb, hf⟩; have H4 := Lib.hid ((H3.out).new (RowT.made hvb hf)); clear hf hvb)
    | (go_at_call 17; refine (HCA.out _ _ H2.out).mono ?_; rintro e w3 ⟨va, rfl, hva, hf⟩; have H3 := Lib.hid ((H2.out).new (RowT.made hva hf)); clear hf hva))
  clear H2 H3 HCA HCB
  have HS := Lib.hid (H4.out.pull3)
  obtain ⟨a0, c0, rfl⟩ := row_form H4.out.right.row
  clear H4
  go_wp2_with fail
  go_loopw [25] (fun iv wr => ∃ m : Nat, m ≤ la.length ∧ iv = .int .i64 m ∧ Hid (Has W wr ((T f).sep ((RowT 37 3 vb lb.length (sgC lb)).sep ((RowT 37 3 (.slice a0 la.length c0) la.length (sgC la)).sep ((BoxT 37 (B + 1) #[.int .i64 0, .string ⟨#[]⟩, .int .i64 0]).sep ((BoxT 37 B #[.int .i64 0, .string ⟨#[]⟩, .int .i64 0]).sep U)))))) ∧ Hid (∀ (x : Nat) (hx : x < la.length), x < m → clR lb la[x] = none)) (fun iv _ => la.length - (intOf iv).toNat)
  case atStart => exact ⟨0, Nat.zero_le _, by go_num, HS, Lib.hid (fun x _ h => absurd h (Nat.not_lt_zero _))⟩
  case round =>
    obtain ⟨m, hm, rfl, HR, HN⟩ := hrel
    clear HS
    by_cases hlt : m < la.length
    · obtain ⟨g, cp, hv, _, hcell⟩ := sg_at HR.out.right.right.row rfl (by omega)
      obtain ⟨rfl, rfl⟩ : a0 = some ⟨g, 0, none⟩ ∧ c0 = cp := by simpa using hv
      have hck := hcell m hlt
      have HL := Lib.hid (fun w' X (h : Has W w' ((T f).sep X)) => HCL.out w' X h la[m] (HGA.out _ (List.getElem_mem hlt)).2.1)
      have HSM := Lib.hid (fun y h => HSO.out m hlt y h (fun x hx h' => HN.out x hx h'))
      have HNX := Lib.hid (show clR lb la[m] = none → ∀ (x : Nat) (hx : x < la.length), x < m + 1 → clR lb la[x] = none from fun h x hx h' => by
        rcases Nat.lt_or_ge x m with h1 | h1
        · exact HN.out x hx h1
        · obtain rfl : x = m := by omega
          exact h)
      obtain ⟨o, ho⟩ : ∃ o, o = clR lb la[m] := ⟨_, rfl⟩
      rw [← ho] at HL HSM HNX
      clear ho
      generalize la[m] = z at *
      obtain ⟨zk, zt, zm⟩ := z
      have s0 := hck.c0
      have s1 := hck.c1
      have s2 := hck.c2
      unfold sgV at HL
      simp only at s0 s1 s2 HL
      clear hcell hck hv HN
      go_upto_region 7 with fail
      have H6 := Lib.hid ((HR.out.box 37 #[.int .i64 zk, .string (S zt), .int .i64 zm]).turn)
      obtain ⟨X, hX⟩ : ∃ X, X = wr.heap.size := ⟨_, rfl⟩
      rw [← hX] at H6 ⊢
      clear hX s0 s1 s2
      generalize wr.alloc (.cells #[.int .i64 zk, .string (S zt), .int .i64 zm] 37) = wa at *
      have hb := H6.out.right.boxed
      have x0 : wa.cell? ⟨X, 0, none⟩ = some (.int .i64 zk) := cellOf hb rfl
      have x1 : wa.cell? ⟨X, 1, none⟩ = some (.string (S zt)) := cellOf hb rfl
      have x2 : wa.cell? ⟨X, 2, none⟩ = some (.int .i64 zm) := cellOf hb rfl
      clear hb
      cases o with
      | none =>
        have HNX' := Lib.hid (HNX.out (by first | rfl | trivial))
        clear HNX HSM
        have HLa := Lib.hid (HL.out wa _ H6.out)
        unfold clV sgV at HLa
        clear HL
        go_wp2_with (go_at_call 34; refine HLa.out.mono ?_; rintro e wb ⟨rfl, hf⟩)
        go_roundw
        case rel => exact ⟨m + 1, by omega, by go_num, Lib.hid ((H6.out.fr (hf.trans (Fr.alloc _ _))).turn.right), HNX'⟩
        case measure => simp [intOf]; omega
      | some y =>
        have hmc := HSM.out y (by first | rfl | trivial)
        clear HNX HSM
        have HLa := Lib.hid (HL.out wa _ H6.out)
        obtain ⟨yk, yt, ym⟩ := y
        unfold clV sgV at HLa
        simp only at HLa
        clear HL HR
        go_upto_region 9 with (go_at_call 34; refine HLa.out.mono ?_; rintro e wb ⟨rfl, hf⟩)
        have H7 := Lib.hid (((H6.out.fr hf).box 37 #[.int .i64 yk, .string (S yt), .int .i64 ym]).turn)
        obtain ⟨Y, hY⟩ : ∃ Y, Y = wb.heap.size := ⟨_, rfl⟩
        rw [← hY] at H7 ⊢
        clear hY x0 x1 x2 hf H6 HLa
        generalize wb.alloc (.cells #[.int .i64 yk, .string (S yt), .int .i64 ym] 37) = wc at *
        have hbY := H7.out.right.boxed
        have hbX := H7.out.right.right.boxed
        have hb2 := (H7.out.right.right.right.right.right).boxed
        have hb1 := (H7.out.right.right.right.right.right.right).boxed
        have x0 : wc.cell? ⟨X, 0, none⟩ = some (.int .i64 zk) := cellOf hbX rfl
        have x1 : wc.cell? ⟨X, 1, none⟩ = some (.string (S zt)) := cellOf hbX rfl
        have x2 : wc.cell? ⟨X, 2, none⟩ = some (.int .i64 zm) := cellOf hbX rfl
        have y0 : wc.cell? ⟨Y, 0, none⟩ = some (.int .i64 yk) := cellOf hbY rfl
        have y1 : wc.cell? ⟨Y, 1, none⟩ = some (.string (S yt)) := cellOf hbY rfl
        have y2 : wc.cell? ⟨Y, 2, none⟩ = some (.int .i64 ym) := cellOf hbY rfl
        have r0 := cellOf hb1 (i := 0) (v := .int .i64 0) rfl
        have r1 := cellOf hb1 (i := 1) (v := .string ⟨#[]⟩) rfl
        have r2 := cellOf hb1 (i := 2) (v := .int .i64 0) rfl
        have s0 := cellOf hb2 (i := 0) (v := .int .i64 0) rfl
        have s1 := cellOf hb2 (i := 1) (v := .string ⟨#[]⟩) rfl
        have s2 := cellOf hb2 (i := 2) (v := .int .i64 0) rfl
        have z0 := frozenOf hb1 0
        have z1 := frozenOf hb1 1
        have z2 := frozenOf hb1 2
        have t0 := frozenOf hb2 0
        have t1 := frozenOf hb2 1
        have t2 := frozenOf hb2 2
        have hYB : Y ≠ B := ((H7.out.right.turn.right.map fun _ h => sep_under h fun _ h => sp4 h).box_ne)
        clear hbY hbX hb1 hb2
        obtain ⟨w4, hw4, h4, ⟨d0, d1, d2⟩, ⟨e0, e1, e2⟩⟩ := shut2 (H7.out.turn.right.turn.right.turn.right.turn.right.map fun _ h => ps3 h) (.int .i64 zk) (.string (S zt)) (.int .i64 zm) (.int .i64 yk) (.string (S yt)) (.int .i64 ym)
        have HW4 := Lib.hid hw4
        have H4 := Lib.hid (h4.fr (Fr.drew w4))
        replace d0 := (Fr.drew w4).cell d0
        replace d1 := (Fr.drew w4).cell d1
        replace d2 := (Fr.drew w4).cell d2
        replace e0 := (Fr.drew w4).cell e0
        replace e1 := (Fr.drew w4).cell e1
        replace e2 := (Fr.drew w4).cell e2
        clear hw4 h4
        go_region
        go_wp2_with fail
        rw [← HW4.out]
        refine bodyPost_ret (v := meetV (some ((zk, zt, zm), (yk, yt, ym)))) (by simp [results, Tryd.results16, go_sem, d0, d1, d2, e0, e1, e2]; rfl) rfl ⟨by rw [hmc], ?_⟩
        rw [HFS.out _ hmc]
        exact H4.out
    · obtain rfl : m = la.length := by omega
      have hmc := HNO.out (fun x hx => HN.out x hx hx)
      have hF := HFN.out hmc
      have HMC := Lib.hid (And.intro hmc hF)
      clear hmc hF HN HSO HNO HFS HFN HCL
      go_upto_region 12 with (go_at_call 35; refine (HTA.out _ _ _ HR.out).mono ?_; rintro e wa ⟨rfl, ha⟩; have HA := Lib.hid (ha.map fun _ h => sep_under h fun _ h => sep_turn h); clear ha)
      clear HR HTA
      go_upto_region 13 with (go_at_call 35; refine (HTB.out _ _ _ HA.out).mono ?_; rintro e wb ⟨rfl, hb⟩; have HB := Lib.hid (hb.turn.right.turn.right.map fun _ h => ps3 h); clear hb)
      clear HA HTB
      have hb2 := HB.out.boxed
      have hb1 := HB.out.right.boxed
      have r0 := cellOf hb1 (i := 0) (v := .int .i64 0) rfl
      have r1 := cellOf hb1 (i := 1) (v := .string ⟨#[]⟩) rfl
      have r2 := cellOf hb1 (i := 2) (v := .int .i64 0) rfl
      have s0 := cellOf hb2 (i := 0) (v := .int .i64 0) rfl
      have s1 := cellOf hb2 (i := 1) (v := .string ⟨#[]⟩) rfl
      have s2 := cellOf hb2 (i := 2) (v := .int .i64 0) rfl
      have z0 := frozenOf hb1 0
      have z1 := frozenOf hb1 1
      have z2 := frozenOf hb1 2
      have t0 := frozenOf hb2 0
      have t1 := frozenOf hb2 1
      have t2 := frozenOf hb2 2
      obtain ⟨w4, hw4, h4, ⟨d0, d1, d2⟩, ⟨e0, e1, e2⟩⟩ := shut2 HB.out (.int .i64 0) (.string ⟨#[]⟩) (.int .i64 0) (.int .i64 0) (.string ⟨#[]⟩) (.int .i64 0)
      have HW4 := Lib.hid hw4
      have H4 := Lib.hid h4
      clear hw4 h4 hb1 hb2
      go_wp2_with fail
      rw [← HW4.out]
      refine bodyPost_ret (v := meetV none) (by simp [results, Tryd.results16, go_sem, d0, d1, d2, e0, e1, e2]; rfl) rfl ⟨by rw [HMC.out.1], ?_⟩
      rw [HMC.out.2]
      exact H4.out
end
end Go.Proofs.YthppefkamklakaaDoor
