/-
  ViewReads: the walk.
-/
import Derived.Test.YtapdabebiinnnaaGreatDoorVsx
import Derived.Test.YtapdabebiinnnaaGreatDoorVl
namespace Go.Proofs.YtapdabebiinnnaaGreatDoor
open Go.RowKit Go.MapKept Go.Maps Go.WideMaps

/-- How Read ends. -/
def RdP (W : World) (R : Nat) (q : List Sd) (U : Thing) (E : Int) (k : Int) (L : List Sg) (e : Ending) (w' : World) : Prop :=
  (E ≠ 0 ∧ e = .returned (.tuple #[.pointer none, .int .i64 E]) ∧ Has W w' ((RingT R q).sep U)) ∨
  (E = 0 ∧ ∃ B, e = .returned (.tuple #[.pointer (some ⟨B, 0, none⟩), .int .i64 0]) ∧ LOk q k L ∧ Has W w' ((ViewT B R k L (vd L)).sep ((RingT R q).sep U)))
theorem rdE_no {q : List Sd} {s : Txt} (h : ¬ (IsKey (pky s) ∧ okP s = true)) : rdE q s = 2 := by unfold rdE; rw [if_neg h]
theorem rdE_yes {q : List Sd} {s : Txt} (h : IsKey (pky s) ∧ okP s = true) : rdE q s = rE q (pky s) [] (fin s).l := by unfold rdE; rw [if_pos h]
set_option maxHeartbeats 4000000 in
set_option maxRecDepth 100000 in
theorem vread {W w : World} {R : Nat} {q : List Sd} {U : Thing} (h : Has W w ((RingT R q).sep U)) (hqn : q.Nodup) (hq : q.length ≤ 1000000) (s : Txt) (hs : s.length ≤ 1000000) (hf : (fin s).l.length ≤ 100000) :
    Calls Tryz.prog 31 #[.pointer (some ⟨R, 0, none⟩), .string (S s)] w (RdP W R q U (rdE q s) (pky s) (fin s).l) := by
  have H := Lib.hid h
  have HQN := Lib.hid hqn
  have HQ := Lib.hid hq
  have HPA := Lib.hid (fun w => parse_any s w hs)
  have HNO := Lib.hid (fun h => rdE_no (q := q) (s := s) h)
  have HYE := Lib.hid (fun h => rdE_yes (q := q) (s := s) h)
  have HGO := Lib.hid (show ∀ x ∈ (fin s).l, x.1 = pky s ∧ GOk x from pst_ok hs s.length)
  have hL := hf
  clear h hqn hq hs hf
  obtain ⟨E, hE⟩ : ∃ E, E = rdE q s := ⟨_, rfl⟩
  obtain ⟨L, hLL⟩ : ∃ L, L = (fin s).l := ⟨_, rfl⟩
  obtain ⟨k, hk⟩ : ∃ k, k = pky s := ⟨_, rfl⟩
  obtain ⟨ok, hok⟩ : ∃ ok, ok = okP s := ⟨_, rfl⟩
  rw [← hE] at HNO HYE ⊢
  rw [← hk] at HPA HNO HYE HGO ⊢
  rw [← hLL] at HPA HYE HGO hL ⊢
  rw [← hok] at HPA HNO HYE
  clear hE hLL hk hok
  go_enter Tryz.func31, Tryz.ntmps31
  go_upto_region 4 with (go_at_call 57; refine (HPA.out _).mono ?_; rintro e w1 ⟨a, c, rfl, h1⟩)
  have H1 := Lib.hid (H.out.add h1.drop)
  clear h1 H HPA
  by_cases hk : IsKey k
  · have HK := Lib.hid hk
    cases ok with
    | false =>
      have hE2 := HNO.out (fun h => absurd h.2 (by simp))
      subst hE2
      clear hk
      go_wp2_with (go_at_call 12; refine (vnew_yes H1.out R k HK.out).mono ?_; rintro e w2 ⟨B, rfl, h2⟩; have H2 := Lib.hid h2; clear h2)
      go_ret2
      exact .inl ⟨by decide, rfl, H2.out.right.right⟩
    | true =>
      have HE := Lib.hid (HYE.out ⟨hk, rfl⟩)
      clear hk HNO HYE
      go_upto_region 7 with (go_at_call 12; refine (vnew_yes H1.out R k HK.out).mono ?_; rintro e w2 ⟨B, rfl, h2⟩; have H2 := Lib.hid h2; clear h2)
      have H3 : Hid (Has W w2 ((ViewT B R k (L.take 0) (vd (L.take 0))).sep ((RingT R q).sep ((RowT 32 3 (.slice a L.length c) L.length (sgC L)).sep U)))) := Lib.hid (H2.out.map fun _ h => sep_under h fun _ h => sep_turn h)
      have HE0 : Hid (E = rE q k (L.take 0) (L.drop 0)) := Lib.hid HE.out
      clear H1 H2 HE
      go_wp2_with fail
      go_loopw [32] (fun i wr => ∃ j : Nat, j ≤ L.length ∧ i = .int .i64 j ∧ Hid (LOk q k (L.take j)) ∧ Hid (E = rE q k (L.take j) (L.drop j)) ∧ Hid (Has W wr ((ViewT B R k (L.take j) (vd (L.take j))).sep ((RingT R q).sep ((RowT 32 3 (.slice a L.length c) L.length (sgC L)).sep U))))) (fun i _ => L.length - (intOf i).toNat)
      case atStart => exact ⟨0, Nat.zero_le _, by go_num, Lib.hid (LOk.nil _ _), HE0, H3⟩
      case round =>
        obtain ⟨j, hj, rfl, HLO, HEJ, HR⟩ := hrel
        clear H3 HE0
        by_cases hlt : j < L.length
        · obtain ⟨g, cp, hv, _, hcell⟩ := sg_at HR.out.right.right.row rfl (by omega)
          obtain ⟨rfl, rfl⟩ : a = some ⟨g, 0, none⟩ ∧ c = cp := by simpa using hv
          obtain ⟨t0, t1, t2⟩ := hcell j hlt
          have HGX := Lib.hid (HGO.out _ (List.getElem_mem hlt)).2
          have HTS := Lib.hid (List.take_succ_eq_append_getElem hlt)
          have HRD := Lib.hid (rE_round (s := L[j]) HLO.out HQN.out (L.drop (j + 1)))
          rw [List.drop_eq_getElem_cons hlt] at HEJ
          obtain ⟨x, hx⟩ : ∃ x, x = L[j] := ⟨_, rfl⟩
          obtain ⟨P, hP⟩ : ∃ P, P = L.take j := ⟨_, rfl⟩
          have hPl : P.length = j := by rw [hP, List.length_take]; omega
          rw [← hx] at t0 t1 t2 HGX HTS HRD HEJ
          rw [← hP] at HTS HRD HEJ HLO HR
          have hPj : j ≤ 100000 := by omega
          have HAC := Lib.hid (fun w' (U : Thing) (h : Has W w' ((ViewT B R k P (vd P)).sep ((RingT R q).sep U))) => vacc h HLO.out HQN.out HQ.out (by omega) x HGX.out)
          unfold sgV at HAC
          clear hx hP hcell hv
          obtain ⟨xk, xt, xm⟩ := x
          simp only at t0 t1 t2 HAC
          go_upto_region 10 with fail
          have H4 := Lib.hid ((HR.out.fr (Fr.alloc wr (.cells #[.int .i64 xk, .string (S xt), .int .i64 xm] 32))))
          have hbx := heap_alloc_new wr (.cells #[.int .i64 xk, .string (S xt), .int .i64 xm] 32)
          have x0 : (wr.alloc (.cells #[.int .i64 xk, .string (S xt), .int .i64 xm] 32)).cell? ⟨wr.heap.size, 0, none⟩ = some (.int .i64 xk) := cellOf hbx rfl
          have x1 : (wr.alloc (.cells #[.int .i64 xk, .string (S xt), .int .i64 xm] 32)).cell? ⟨wr.heap.size, 1, none⟩ = some (.string (S xt)) := cellOf hbx rfl
          have x2 : (wr.alloc (.cells #[.int .i64 xk, .string (S xt), .int .i64 xm] 32)).cell? ⟨wr.heap.size, 2, none⟩ = some (.int .i64 xm) := cellOf hbx rfl
          obtain ⟨X, hX⟩ : ∃ X, X = wr.heap.size := ⟨_, rfl⟩
          rw [← hX] at x0 x1 x2 ⊢
          clear hX hbx HR t0 t1 t2
          generalize wr.alloc (.cells #[.int .i64 xk, .string (S xt), .int .i64 xm] 32) = w4 at *
          go_upto_region 11 with (go_at_call 16; refine (HAC.out _ _ H4.out).mono ?_; rintro e w5 ⟨rfl, h5⟩; have H5 := Lib.hid h5; clear h5)
          obtain ⟨ae, hae⟩ : ∃ ae, ae = aE q k P (xk, xt, xm) := ⟨_, rfl⟩
          obtain ⟨al, hal⟩ : ∃ al, al = acl q k P (xk, xt, xm) := ⟨_, rfl⟩
          rw [← hae] at HRD ⊢
          rw [← hal] at HRD H5
          clear hae hal HAC H4 x0 x1 x2
          rcases HRD.out with ⟨he, hE⟩ | ⟨rfl, hl, hE⟩ | ⟨rfl, hl, hO, hE⟩
          · rw [hE] at HEJ
            obtain rfl := HEJ.out
            clear hE HRD
            have HNE := Lib.hid he
            have he' : (E != 0) = true := by simpa using he
            clear he
            go_wp2_with fail
            go_ret2
            exact .inl ⟨HNE.out, rfl, H5.out.right.turn.right⟩
          · rw [hE] at HEJ
            obtain rfl := HEJ.out
            obtain ⟨p, hp⟩ := H5.out.vopen
            obtain ⟨b, cb, hav⟩ := row_form hp.row
            have c2 := hp.cell 2 p.av rfl
            rw [hav, hl, hPl] at c2
            clear hE HRD hp hav
            go_wp2_with fail
            go_ret2
            exact .inl ⟨by decide, rfl, H5.out.right.turn.right⟩
          · subst hl
            rw [hE] at HEJ
            rw [← HTS.out] at HEJ H5 hO
            obtain ⟨p, hp⟩ := H5.out.vopen
            obtain ⟨b, cb, hav⟩ := row_form hp.row
            have c2 := hp.cell 2 p.av rfl
            have hlen : (L.take (j + 1)).length = j + 1 := by rw [List.length_take]; omega
            rw [hav, hlen] at c2
            have HO := Lib.hid hO
            clear hE HRD hp hav hO
            go_wp2_with fail
            go_roundw
            case rel => exact ⟨j + 1, by omega, by go_num, HO, HEJ, H5⟩
            case measure => simp [intOf]; omega
        · obtain rfl : j = L.length := by omega
          rw [List.take_length] at HLO HEJ HR
          rw [List.drop_length] at HEJ
          have hE0 : E = 0 := HEJ.out
          go_wp2_with fail
          go_ret2
          exact .inr ⟨hE0, B, rfl, HLO.out, HR.out.pull3.right⟩
  · have hE2 := HNO.out (fun h => hk h.1)
    subst hE2
    have HK := Lib.hid hk
    clear hk
    go_wp2_with (go_at_call 12; refine (vnew_no _ k _ (.inr HK.out)).mono ?_; rintro e w2 ⟨rfl, hf2⟩)
    go_ret2
    exact .inl ⟨by decide, rfl, (H1.out.fr hf2).right⟩
end Go.Proofs.YtapdabebiinnnaaGreatDoor
namespace Go.Proofs.YtapdabebiinnnaaGreatDoor
open Go.RowKit Go.MapKept Go.Maps Go.WideMaps

/-! ### slices.Clone of claims -/
theorem ClAt.cells {w : World} {b o : Nat} {l : List C} (h : ClAt w b o l) : ∀ j u, (cC l)[j]? = some u → w.cell? ((⟨b, o, none⟩ : Addr).add j) = some u := by
  intro j u hu
  have hj : j < l.length * 4 := by have := (List.getElem?_eq_some_iff.1 hu).1; rwa [cC_length] at this
  have hi : j / 4 < l.length := by omega
  have h1 := h (j / 4) hi
  have h2 := cC_get l (j / 4) hi
  rw [Addr.add_mid]
  have hm : j % 4 = 0 ∨ j % 4 = 1 ∨ j % 4 = 2 ∨ j % 4 = 3 := by omega
  rcases hm with hm | hm | hm | hm
  · have e : j = 4 * (j / 4) := by omega
    rw [e] at hu
    rw [h2.1] at hu
    rw [← hu, ← h1.1]
    congr 2
    omega
  · have e : j = 4 * (j / 4) + 1 := by omega
    rw [e] at hu
    rw [h2.2.1] at hu
    rw [← hu, ← h1.2.1]
    congr 2
    omega
  · have e : j = 4 * (j / 4) + 2 := by omega
    rw [e] at hu
    rw [h2.2.2.1] at hu
    rw [← hu, ← h1.2.2.1]
    congr 2
    omega
  · have e : j = 4 * (j / 4) + 3 := by omega
    rw [e] at hu
    rw [h2.2.2.2] at hu
    rw [← hu, ← h1.2.2.2]
    congr 2
    omega
def CloneC (l : List C) (w : World) (e : Ending) (w' : World) : Prop := ∃ v', e = .returned v' ∧ w'.ownsRow w.heap.size 35 4 v' l.length (cC l) ∧ Fr w w'
set_option maxHeartbeats 1000000 in
set_option maxRecDepth 100000 in
theorem cclone_some (ad : Addr) (c : Nat) (l : List C) (w : World) (hc : ∀ j u, (cC l)[j]? = some u → w.cell? (ad.add j) = some u) (hn : l.length ≤ 1000000) :
    Calls Tryz.prog 67 #[.slice (some ad) l.length c] w (CloneC l w) := by
  obtain ⟨i0, hi, hz0, hz1, hz2⟩ := info_parts infoCl
  have HIN := Lib.hid hi
  have hq := fun w => Lib.run_eql_slice_nil (P := Tryz.prog) w 83 _ (some ad) l.length c 0 0 Tryz.underlying83
  have hnb : (0 + l.length) * 40 ≤ 140737488355328 := by omega
  have HC : Hid (∀ j u, (cC l)[j]? = some u → (w.alloc (.cells #[] 35)).cell? (ad.add j) = some u) := Lib.hid (fun j u hu => (Fr.alloc w (.cells #[] 35)).cell (hc j u hu))
  have HO : Hid ((w.alloc (.cells #[] 35)).ownsRow w.heap.size 35 4 (.slice (some ⟨w.heap.size, 0, none⟩) 0 0) 0 []) := Lib.hid (World.ownsRow_lit (base := w.heap.size) (e := 35) (size := 4) w #[] 0 (Nat.le_refl _) (Nat.zero_le _) rfl)
  clear hi hc
  go_enter Tryz.func67, Tryz.ntmps67
  go_wp2_with ((at_builtin; refine wpList_append_own _ rfl (.tmp 5) (.tmp 6) 83 rfl w.heap.size 35 i0 (.agg #[.int .i64 0, .int .i64 0, .int .i64 0, .string (S [])]) 4 40 Tryz.underlying83 HIN.out hz0 hz1 hz2 rfl (by decide) _ _ _ rfl HO.out ad l.length c (cC l) rfl (cC_length l) HC.out (cC_one l) (by unfold maxLen; omega) hnb (by simp) ?_; intro v1 w1 hown1 hgrow1 _))
  have hg : w1.ownsRow w.heap.size 35 4 v1 l.length (cC l) := by
    have := hown1
    rw [Nat.zero_add, List.nil_append] at this
    exact this
  have hf : Fr w w1 := ⟨hgrow1.os, hgrow1.tape, hgrow1.output, by have := hgrow1.size; simp at this; omega, fun k hk _ => by
    rw [hgrow1.block k (by simp; omega) (fun e => Nat.ne_of_lt hk (Option.some.inj e))]
    exact (Fr.alloc w _).block hk⟩
  go_ret
  exact ⟨v1, rfl, hg, hf⟩
set_option maxHeartbeats 1000000 in
set_option maxRecDepth 100000 in
theorem cclone_nil (c : Nat) (w : World) : Calls Tryz.prog 67 #[.slice none 0 c] w (CloneC [] w) := by
  have hq := fun w => Lib.run_eql_slice_nil (P := Tryz.prog) w 83 _ none 0 c 0 0 Tryz.underlying83
  go_enter Tryz.func67, Tryz.ntmps67
  go_wp2_with fail
  go_ret
  exact ⟨_, rfl, World.ownsRow_nil _ _ _ _, Fr.refl _⟩
set_option maxRecDepth 100000 in
theorem cclone_any (v : Value) (l : List C) (w : World) (h : ClSl w v l) (hn : l.length ≤ 1000000) : Calls Tryz.prog 67 #[v] w (CloneC l w) := by
  rcases h with ⟨rfl, a, c, rfl⟩ | ⟨b, o, c, rfl, h⟩
  · cases a with
    | none => exact cclone_nil c w
    | some ad => exact cclone_some ad c [] w (fun j u hu => by simp [cC] at hu) (by decide)
  · exact cclone_some ⟨b, o, none⟩ c l w h.cells hn


/-! ### Copy -/
theorem copy_parts {W w : World} {X R : Nat} {k : Int} {l : List Sg} {d : VD} {p : VQ}
    (h : Has W w ((BoxT 85 X (p.cells R k)).sep ((RowT 35 4 p.hv d.hd.length (cC d.hd)).sep ((MapT p.mA (abV d) p.n4).sep ((MapT p.mF (fiV d) p.n3).sep ((MeT p.mE (enV d) p.n2).sep ((MbT p.mM (mmV d) p.n1).sep ((RowT 32 3 p.av l.length (sgC l)).sep .emp)))))))) : Has W w (ViewT X R k l d) :=
  (VP.close (p := p) (U := .emp) (h.map fun _ h => sep_under h fun _ h => sep_under (sp6 h) fun _ h => sep_under (sp5 h) fun _ h => sep_under (sp4 h) fun _ h => sep_under (sp3 h) fun _ h => sep_turn h)).drop
set_option maxHeartbeats 4000000 in
set_option maxRecDepth 100000 in
theorem vcopy {W w : World} {B R : Nat} {k : Int} {l : List Sg} {d : VD} {U : Thing} (h : Has W w ((ViewT B R k l d).sep U)) (hl : l.length ≤ 1000000) (hd : d.hd.length ≤ 1000000) :
    Calls Tryz.prog 35 #[.pointer (some ⟨B, 0, none⟩)] w fun e w' => ∃ B', e = .returned (.pointer (some ⟨B', 0, none⟩)) ∧ Has w w' (ViewT B' R k l d) := by
  obtain ⟨p, hp⟩ := h.vopen
  have HL := Lib.hid hl
  have HDL := Lib.hid hd
  have HG := Lib.hid (GSl.own hp.row rfl)
  have HC := Lib.hid (ClSl.own hp.hd rfl)
  have HM := Lib.hid hp.mm
  have HE := Lib.hid hp.en
  have HF := Lib.hid hp.fi
  have HA := Lib.hid hp.ab
  obtain ⟨a1, cp1, hav⟩ := row_form hp.row
  obtain ⟨a2, cp2, hhv⟩ := row_form hp.hd
  have c0 := hp.cell 0 (.pointer (some ⟨R, 0, none⟩)) rfl
  have c1 := hp.cell 1 (.int .i64 k) rfl
  have c2 := hp.cell 2 p.av rfl
  have c3 := hp.cell 3 (.map (some p.mM)) rfl
  have c4 := hp.cell 4 (.map (some p.mE)) rfl
  have c5 := hp.cell 5 (.map (some p.mF)) rfl
  have c6 := hp.cell 6 (.map (some p.mA)) rfl
  have c7 := hp.cell 7 p.hv rfl
  clear hp h hl hd
  obtain ⟨av, mM, mE, mF, mA, hv, n1, n2, n3, n4⟩ := p
  simp only at HG HC HM HE HF HA hav hhv c0 c1 c2 c3 c4 c5 c6 c7
  subst hav hhv
  have HCB := Lib.hid (show ∀ w', Fr w w' → w'.cell? ⟨B, 2, none⟩ = some (.slice a1 l.length cp1) ∧ w'.cell? ⟨B, 3, none⟩ = some (.map (some mM)) ∧ w'.cell? ⟨B, 4, none⟩ = some (.map (some mE)) ∧ w'.cell? ⟨B, 5, none⟩ = some (.map (some mF)) ∧ w'.cell? ⟨B, 6, none⟩ = some (.map (some mA)) ∧ w'.cell? ⟨B, 7, none⟩ = some (.slice a2 d.hd.length cp2) from fun w' hf => ⟨hf.cell c2, hf.cell c3, hf.cell c4, hf.cell c5, hf.cell c6, hf.cell c7⟩)
  go_enter Tryz.func35, Tryz.ntmps35
  go_upto_region 2 with fail
  have H1 := Lib.hid ((Has.here w).box 85 #[.pointer (some ⟨R, 0, none⟩), .int .i64 k, .slice a1 l.length cp1, .map (some mM), .map (some mE), .map (some mF), .map (some mA), .slice a2 d.hd.length cp2])
  obtain ⟨X, hX⟩ : ∃ X, X = w.heap.size := ⟨_, rfl⟩
  rw [← hX] at H1 ⊢
  clear hX c0 c1 c2 c3 c4 c5 c6 c7
  generalize w.alloc (.cells #[.pointer (some ⟨R, 0, none⟩), .int .i64 k, .slice a1 l.length cp1, .map (some mM), .map (some mE), .map (some mF), .map (some mA), .slice a2 d.hd.length cp2] 85) = w1 at *
  have c2 := (HCB.out _ H1.out.toFr).1
  go_upto_region 3 with (go_at_call 63; refine (gclone_any _ l _ (HG.out.fr H1.out.toFr) HL.out).mono ?_; rintro e w2 ⟨v', rfl, ho, hf⟩
                         have H2 := Lib.hid (H1.out.radd ho hf).turn
                         obtain ⟨b1, q1, rfl⟩ := row_form ho
                         have x2 : w2.cell? ⟨X, 2, none⟩ = some (.slice a1 l.length cp1) := cellOf H2.out.boxed rfl
                         have y2 := frozenOf H2.out.boxed 2
                         clear ho hf)
  have H3 := Lib.hid (H2.out.set 2 (.slice b1 l.length q1))
  simp only [List.setIfInBounds_toArray, List.set_cons_zero, List.set_cons_succ] at H3
  clear c2 x2 y2 H1 H2
  generalize w2.setCell ⟨X, 2, none⟩ (.slice b1 l.length q1) = w3 at *
  have c3 := (HCB.out _ H3.out.toFr).2.1
  go_upto_region 4 with (go_at_call 64; refine (Mb.mapsClone_is _ (HM.out.fr H3.out.toFr)).mono ?_; rintro e w4 ⟨rfl, hm, hf⟩
                         have H4 := Lib.hid (H3.out.new (T := MbT w3.heap.size (mmV d) n1) ⟨fun k => k = w3.heap.size, ⟨hm, fun _ => Iff.rfl⟩, fun k hk => .inr (by subst hk; exact ⟨Nat.le_refl _, hm.lt⟩), .of_fr hf⟩).turn
                         have x3 : w4.cell? ⟨X, 3, none⟩ = some (.map (some mM)) := cellOf H4.out.boxed rfl
                         have y3 := frozenOf H4.out.boxed 3
                         clear hm hf)
  obtain ⟨m1, hm1⟩ : ∃ m, m = w3.heap.size := ⟨_, rfl⟩
  rw [← hm1] at H4 ⊢
  have H5 := Lib.hid (H4.out.set 3 (.map (some m1)))
  simp only [List.setIfInBounds_toArray, List.set_cons_zero, List.set_cons_succ] at H5
  clear c3 x3 y3 H3 H4 hm1
  generalize w4.setCell ⟨X, 3, none⟩ (.map (some m1)) = w5 at *
  have c4 := (HCB.out _ H5.out.toFr).2.2.1
  go_upto_region 5 with (go_at_call 65; refine (Me.mapsClone_is _ (HE.out.fr H5.out.toFr)).mono ?_; rintro e w6 ⟨rfl, hm, hf⟩
                         have H6 := Lib.hid (H5.out.new (T := MeT w5.heap.size (enV d) n2) ⟨fun k => k = w5.heap.size, ⟨hm, fun _ => Iff.rfl⟩, fun k hk => .inr (by subst hk; exact ⟨Nat.le_refl _, hm.lt⟩), .of_fr hf⟩).turn
                         have x4 : w6.cell? ⟨X, 4, none⟩ = some (.map (some mE)) := cellOf H6.out.boxed rfl
                         have y4 := frozenOf H6.out.boxed 4
                         clear hm hf)
  obtain ⟨m2, hm2⟩ : ∃ m, m = w5.heap.size := ⟨_, rfl⟩
  rw [← hm2] at H6 ⊢
  have H7 := Lib.hid (H6.out.set 4 (.map (some m2)))
  simp only [List.setIfInBounds_toArray, List.set_cons_zero, List.set_cons_succ] at H7
  clear c4 x4 y4 H5 H6 hm2
  generalize w6.setCell ⟨X, 4, none⟩ (.map (some m2)) = w7 at *
  have c5 := (HCB.out _ H7.out.toFr).2.2.2.1
  go_upto_region 6 with (go_at_call 66; refine (Ms.mapsClone_is _ (HF.out.fr H7.out.toFr)).mono ?_; rintro e w8 ⟨rfl, hm, hf⟩
                         have H8 := Lib.hid (H7.out.madd hm (Nat.le_refl _) hf).turn
                         have x5 : w8.cell? ⟨X, 5, none⟩ = some (.map (some mF)) := cellOf H8.out.boxed rfl
                         have y5 := frozenOf H8.out.boxed 5
                         clear hm hf)
  obtain ⟨m3, hm3⟩ : ∃ m, m = w7.heap.size := ⟨_, rfl⟩
  rw [← hm3] at H8 ⊢
  have H9 := Lib.hid (H8.out.set 5 (.map (some m3)))
  simp only [List.setIfInBounds_toArray, List.set_cons_zero, List.set_cons_succ] at H9
  clear c5 x5 y5 H7 H8 hm3
  generalize w8.setCell ⟨X, 5, none⟩ (.map (some m3)) = w9 at *
  have c6 := (HCB.out _ H9.out.toFr).2.2.2.2.1
  go_upto_region 7 with (go_at_call 66; refine (Ms.mapsClone_is _ (HA.out.fr H9.out.toFr)).mono ?_; rintro e w10 ⟨rfl, hm, hf⟩
                         have H10 := Lib.hid (H9.out.madd hm (Nat.le_refl _) hf).turn
                         have x6 : w10.cell? ⟨X, 6, none⟩ = some (.map (some mA)) := cellOf H10.out.boxed rfl
                         have y6 := frozenOf H10.out.boxed 6
                         clear hm hf)
  obtain ⟨m4, hm4⟩ : ∃ m, m = w9.heap.size := ⟨_, rfl⟩
  rw [← hm4] at H10 ⊢
  have H11 := Lib.hid (H10.out.set 6 (.map (some m4)))
  simp only [List.setIfInBounds_toArray, List.set_cons_zero, List.set_cons_succ] at H11
  clear c6 x6 y6 H9 H10 hm4
  generalize w10.setCell ⟨X, 6, none⟩ (.map (some m4)) = w11 at *
  have c7 := (HCB.out _ H11.out.toFr).2.2.2.2.2
  go_upto_region 8 with (go_at_call 67; refine (cclone_any _ d.hd _ (HC.out.fr H11.out.toFr) HDL.out).mono ?_; rintro e w12 ⟨v', rfl, ho, hf⟩
                         have H12 := Lib.hid (H11.out.radd ho hf).turn
                         obtain ⟨b2, q2, rfl⟩ := row_form ho
                         have x7 : w12.cell? ⟨X, 7, none⟩ = some (.slice a2 d.hd.length cp2) := cellOf H12.out.boxed rfl
                         have y7 := frozenOf H12.out.boxed 7
                         clear ho hf)
  have H13 := Lib.hid (H12.out.set 7 (.slice b2 d.hd.length q2))
  simp only [List.setIfInBounds_toArray, List.set_cons_zero, List.set_cons_succ] at H13
  clear c7 x7 y7 H11 H12
  generalize w12.setCell ⟨X, 7, none⟩ (.slice b2 d.hd.length q2) = w13 at *
  go_wp2_with fail
  go_ret
  exact ⟨X, rfl, copy_parts (p := ⟨.slice b1 l.length q1, m1, m2, m3, m4, .slice b2 d.hd.length q2, n1, n2, n3, n4⟩) H13.out⟩
end Go.Proofs.YtapdabebiinnnaaGreatDoor
namespace Go.Proofs.YtapdabebiinnnaaGreatDoor
open Go.RowKit Go.MapKept Go.Maps Go.WideMaps

/-! ### Same, of equal lists -/
set_option maxHeartbeats 400000 in
set_option maxRecDepth 100000 in
theorem sameG_at (b o c b' o' c' : Nat) (xs : List Sg) (w : World) (h1 : GAt w b o xs) (h2 : GAt w b' o' xs) (hn : xs.length ≤ 1000000) :
    Calls Tryz.prog 33 #[.slice (some ⟨b, o, none⟩) xs.length c, .slice (some ⟨b', o', none⟩) xs.length c'] w fun e w' => e = .returned (.bool true) ∧ ∃ m, w' = w.drewN m := by
  have H1 := Lib.hid h1
  have H2 := Lib.hid h2
  clear h1 h2
  go_enter Tryz.func33, Tryz.ntmps33
  go_wp2_with fail
  go_loopw [5] (fun i wr => ∃ k : Nat, k ≤ xs.length ∧ i = .int .i64 k ∧ Hid (∃ m, wr = w.drewN m)) (fun i _ => xs.length - (intOf i).toNat)
  case atStart => exact ⟨0, Nat.zero_le _, rfl, Lib.hid ⟨0, rfl⟩⟩
  case round =>
    obtain ⟨k, hk, rfl, hwr⟩ := hrel
    have hF : Fr w wr := by obtain ⟨m, rfl⟩ := hwr.out; exact Fr.drewN w m
    by_cases hlt : k < xs.length
    · obtain ⟨c0, c1, c2⟩ := (H1.out k hlt).fr hF
      obtain ⟨d0, d1, d2⟩ := (H2.out k hlt).fr hF
      generalize xs[k] = x at *
      obtain ⟨y, t, m⟩ := x
      simp only at c0 c1 c2 d0 d1 d2
      go_wp2_with fail
      go_quiet (fail)
      have hq : ∃ m, wr.drewN nq = w.drewN m := by obtain ⟨m, rfl⟩ := hwr.out; exact ⟨m + nq, World.drewN_drewN ..⟩
      have HQ := Lib.hid hq
      generalize wr.drewN nq = w2 at *
      clear c0 c1 c2 d0 d1 d2 hwr hF hq
      go_wp2_with fail
      go_roundw
      case rel => exact ⟨k + 1, by omega, by go_num, HQ⟩
      case measure => simp [intOf]; omega
    · go_wp2_with fail
      go_ret
      exact ⟨rfl, hwr.out⟩
set_option maxRecDepth 100000 in
theorem sameG_nil (a a' : Option Addr) (c c' : Nat) (w : World) :
    Calls Tryz.prog 33 #[.slice a 0 c, .slice a' 0 c'] w fun e w' => e = .returned (.bool true) ∧ ∃ m, w' = w.drewN m := by
  go_enter Tryz.func33, Tryz.ntmps33
  go_wp2_with fail
  go_loopw [5] (fun i wr => i = .int .i64 0 ∧ wr = w) (fun _ _ => 0)
  case atStart => exact ⟨rfl, rfl⟩
  case round =>
    obtain ⟨rfl, rfl⟩ := hrel
    go_wp2_with fail
    go_ret
    exact ⟨rfl, 0, rfl⟩
theorem sameG_any {u v : Value} {xs : List Sg} (w : World) (h1 : GSl w u xs) (h2 : GSl w v xs) (hn : xs.length ≤ 1000000) :
    Calls Tryz.prog 33 #[u, v] w fun e w' => e = .returned (.bool true) ∧ Fr w w' := by
  have hq : Calls Tryz.prog 33 #[u, v] w fun e w' => e = .returned (.bool true) ∧ ∃ m, w' = w.drewN m := by
    rcases h1 with ⟨rfl, a, c, rfl⟩ | ⟨b, o, c, rfl, hc⟩
    · obtain ⟨a', c', rfl⟩ := h2.len
      exact sameG_nil a a' c c' w
    · rcases h2 with ⟨rfl, a', c', rfl⟩ | ⟨b', o', c', rfl, hc'⟩
      · exact sameG_nil _ a' c c' w
      · exact sameG_at b o c b' o' c' xs w hc hc' hn
  exact hq.mono fun _ _ ⟨he, m, hm⟩ => ⟨he, hm ▸ Fr.drewN w m⟩

/-! ### What is read -/
section
variable {q : List Sd} {k : Int} {L : List Sg}
theorem rd_same (h : LOk q k L) (hq : q.Nodup) (hql : q.length ≤ 1000000) (hk : IsKey k) (hl : L.length ≤ 100000) : rdE q (byT k L) = 0 ∧ pky (byT k L) = k ∧ (fin (byT k L)).l = L := by
  obtain ⟨h1, h2, h3⟩ := by_fin (k := k) (l := L) ⟨hk.1, by have := hk.2; omega⟩ (by omega) (h.wok hql) h.key
  have h4 := rE_all h hq 0 (Nat.zero_le _)
  rw [List.take_zero, List.drop_zero] at h4
  exact ⟨by rw [rdE_yes ⟨by rw [h1]; exact hk, h3⟩, h1, h2]; exact h4, h1, by rw [h2]⟩
theorem rd_other (h : LOk q k L) (hql : q.length ≤ 1000000) (hk : IsKey k) (hl : L.length ≤ 100000) (h0 : 0 < L.length) : rdE [] (byT k L) = 18 ∧ (fin (byT k L)).l = L := by
  obtain ⟨h1, h2, h3⟩ := by_fin (k := k) (l := L) ⟨hk.1, by have := hk.2; omega⟩ (by omega) (h.wok hql) h.key
  refine ⟨?_, by rw [h2]⟩
  rw [rdE_yes ⟨by rw [h1]; exact hk, h3⟩, h1, h2]
  cases L with
  | nil => simp at h0
  | cons a L =>
    have he : aE [] k [] a = 18 := (acc_seal (k := k) (d := vd []) (s := a) (q := []) [] (by unfold holds; simp)).1
    rw [rE, if_neg (by simp), if_pos (by rw [he]; decide), he]
theorem rd_twice (h : LOk q k L) (hq : q.Nodup) (hql : q.length ≤ 1000000) (hk : IsKey k) {a : Sg} (ha : a ∈ L) : rdE q (byT k [a, a]) = 5 ∧ (fin (byT k [a, a])).l.length ≤ 100000 := by
  have hw := h.wok hql a ha
  have hy := h.key a ha
  obtain ⟨h1, h2, h3⟩ := by_fin (k := k) (l := [a, a]) ⟨hk.1, by have := hk.2; omega⟩ (by simp) (fun s hs => by
    obtain rfl : s = a := by simpa using hs
    exact hw) (fun s hs => by
    obtain rfl : s = a := by simpa using hs
    exact hy)
  refine ⟨?_, by rw [h2]; simp⟩
  rw [rdE_yes ⟨by rw [h1]; exact hk, h3⟩, h1, h2]
  have hg : Good q k [] a := ⟨h.val a ha, hy, (by obtain ⟨h1, h2⟩ := h.log a ha; exact ⟨_, h1, h2⟩), by simp⟩
  have he := (aE_zero (LOk.nil q k) hq a).2 hg
  show rE q k [] [a, a] = 5
  rw [rE, if_neg (by simp), if_neg (by rw [he]; simp), rE, if_pos (by simp)]
theorem rd_more (h : LOk q k L) (hql : q.length ≤ 1000000) (hk : IsKey k) (hl : L.length ≤ 10000) : rdE q (byT k L ++ [48, 59]) = 2 ∧ (fin (byT k L ++ [48, 59])).l.length ≤ 100000 := by
  obtain ⟨h1, h2⟩ := by_more (k := k) (l := L) ⟨hk.1, by have := hk.2; omega⟩ (by omega) (h.wok hql) h.key
  exact ⟨rdE_no (by rw [h1]; simp), by rw [h2]; omega⟩
theorem byT_len (h : LOk q k L) (hql : q.length ≤ 1000000) (hk : IsKey k) (hl : L.length ≤ 40) : (byT k L).length ≤ 900000 := by
  have h1 := num_len k hk.1 (by have := hk.2; omega)
  have h2 := num_len (L.length : Int) (by omega) (by omega)
  have h3 := flat_sg (h.wok hql)
  have h4 : L.length * 20240 ≤ 40 * 20240 := Nat.mul_le_mul_right _ hl
  unfold byT
  simp only [List.length_append]
  omega
theorem byT_two (a : Sg) : byT k [a, a] = (Wm.numE 59).f k ++ (Wm.numE 59).f 2 ++ (Wm.numE 59).f a.2.2 ++ Wm.textE.f a.2.1 ++ (Wm.numE 59).f a.2.2 ++ Wm.textE.f a.2.1 := by
  unfold byT sgE
  simp

/-! ### The two claims at last -/
def tX : Txt := [49, 59, 50, 48, 48, 48, 48, 48, 59, 49, 48, 55, 51, 55, 52, 49, 56, 50, 52, 59, 48, 58, 44]
def tY : Txt := [49, 59, 48, 59, 49, 48, 55, 51, 55, 52, 49, 56, 50, 52, 59, 48, 58, 44]
def cX : C := ⟨1, 200000, 1073741824, []⟩
def cY : C := ⟨1, 0, 1073741824, []⟩
theorem okX : okB cX = true := (okB_iff _).2 ⟨by decide, by decide, by decide, by decide, by decide, .inl (by decide)⟩
theorem okY : okB cY = true := (okB_iff _).2 ⟨by decide, by decide, by decide, by decide, by decide, .inl (by decide)⟩
theorem it1 : (Wm.numE 59).f 1 = [49, 59] := by rw [Wm.numE_f]; simp [Lib.itoa, Lib.decDigits]
theorem it0 : (Wm.numE 59).f 0 = [48, 59] := by rw [Wm.numE_f]; simp [Lib.itoa, Lib.decDigits]
theorem itN : (Wm.numE 59).f 200000 = [50, 48, 48, 48, 48, 48, 59] := by rw [Wm.numE_f]; simp [Lib.itoa, Lib.decDigits]
theorem itT : (Wm.numE 59).f 1073741824 = [49, 48, 55, 51, 55, 52, 49, 56, 50, 52, 59] := by rw [Wm.numE_f]; simp [Lib.itoa, Lib.decDigits]
theorem itE : Wm.textE.f [] = [48, 58, 44] := by rw [Wm.textE_f]; simp [Lib.itoa, Lib.decDigits]
theorem rdX : readC tX = some cX := readC_some.2 ⟨okX, by unfold textC cX; simp only; rw [it1, itN, itT, itE]; rfl⟩
theorem rdY : readC tY = some cY := readC_some.2 ⟨okY, by unfold textC cY; simp only; rw [it1, it0, itT, itE]; rfl⟩
theorem conXY : contra cX cY = true := by rw [contra_11 okX okY rfl rfl]; decide
theorem last_ne (h : LOk q k L) (hq : q.Nodup) (hql : q.length ≤ 1000000) (hk : IsKey k) (hl : L.length ≤ 100000) {x y : Sg} (hx : x.2.1 = tX) (hy : y.2.1 = tY) (h1 : aE q k L x = 0) (h2 : aE q k L y = 0) :
    byT k (acl q k L x) ≠ byT k (acl q k L y) := by
  have gx := (aE_zero h hq x).1 h1
  have gy := (aE_zero h hq y).1 h2
  have ex : clm x.2.1 = cX := by rw [hx]; exact readC_clm rdX
  have ey : clm y.2.1 = cY := by rw [hy]; exact readC_clm rdY
  have nx : x ∉ L := fun hm => by
    have := gy.2.2.2 x hm
    rw [ex, ey, conXY] at this
    exact absurd this (by simp)
  have ny : y ∉ L := fun hm => by
    have := gx.2.2.2 y hm
    rw [ex, ey, contra_comm, conXY] at this
    exact absurd this (by simp)
  have ox := gx.add h nx
  have oy := gy.add h ny
  rw [acl_new h hq gx nx, acl_new h hq gy ny]
  intro he
  have := by_inj (k := k) ⟨hk.1, by have := hk.2; omega⟩ (by simp; omega) (by simp; omega) (ox.wok hql) (oy.wok hql) ox.key oy.key he
  have h3 := List.append_cancel_left this
  injection h3 with h3
  rw [h3] at hx
  rw [hx] at hy
  exact absurd hy (by decide)
end
end Go.Proofs.YtapdabebiinnnaaGreatDoor
namespace Go.Proofs.YtapdabebiinnnaaGreatDoor
open Go.RowKit Go.MapKept Go.Maps Go.WideMaps Go.BigFrame

set_option maxHeartbeats 1000000 in
set_option maxRecDepth 100000 in
theorem reads_not (v : Value) (l : List Sy) (key : Int) (w : World) (h : SySl w v l) (ha : SArg l) (hf : ¬ FewY l) :
    Calls Tryz.prog 4 #[v, .int .i64 key] w fun e w' => e = .returned (.bool true) ∧ Fr w w' := by
  have H := Lib.hid h
  have HA := Lib.hid ha
  have HF := Lib.hid (show decide (FewY l) = false from decide_eq_false hf)
  clear h ha hf
  by_cases hk : IsKey key
  · have HK := Lib.hid hk
    clear hk
    go_enter Tryz.func4, Tryz.ntmps4
    go_wp2_with (first
      | (go_at_call 6; refine (few_any _ (H.out.fr h3.toFr) HA.out).mono ?_; rw [HF.out]; rintro e w4 ⟨rfl, rfl⟩)
      | (go_at_call 12; refine (vnew_yes h2 B key HK.out).mono ?_; rintro e w3 ⟨V, rfl, h3⟩)
      | (go_at_call 7; refine (((Has.here w).fr hf1).ring).mono ?_; rintro e w2 ⟨B, rfl, h2⟩)
      | (go_at_call 5; refine (small_any _).mono ?_; rintro e w1 ⟨rfl, hf1⟩))
    go_ret
    exact ⟨rfl, h3.toFr⟩
  · have HK := Lib.hid hk
    have hb : key < 0 ∨ 200 ≤ key := by
      rcases Int.lt_or_le key 0 with h | h
      · exact .inl h
      · exact .inr (Int.not_lt.1 fun h' => hk ⟨h, h'⟩)
    clear hk
    go_enter Tryz.func4, Tryz.ntmps4
    go_upto_region 5 with (first
      | (go_at_call 6; refine (few_any _ (H.out.fr (h2.toFr.trans hf3)) HA.out).mono ?_; rw [HF.out]; rintro e w4 ⟨rfl, rfl⟩)
      | (go_at_call 12; refine (vnew_no _ key _ (.inr HK.out)).mono ?_; rintro e w3 ⟨rfl, hf3⟩)
      | (go_at_call 7; refine (((Has.here w).fr hf1).ring).mono ?_; rintro e w2 ⟨B, rfl, h2⟩)
      | (go_at_call 5; refine (small_any _).mono ?_; rintro e w1 ⟨rfl, hf1⟩))
    have HFX := Lib.hid (h2.toFr.trans hf3)
    clear hf3 h2 hf1
    rcases hb with hb | hb
    · go_wp2_with fail
      go_ret
      exact ⟨rfl, HFX.out⟩
    · have hb0 : ¬ key < 0 := by omega
      go_wp2_with fail
      go_ret
      exact ⟨rfl, HFX.out⟩
set_option maxHeartbeats 1000000 in
set_option maxRecDepth 100000 in
theorem reads_nokey (v : Value) (l : List Sy) (key : Int) (w : World) (h : SySl w v l) (ha : SArg l) (hf : FewY l) (hk : ¬ IsKey key) :
    Calls Tryz.prog 4 #[v, .int .i64 key] w fun e w' => e = .returned (.bool true) ∧ Fr w w' := by
  have H := Lib.hid h
  have HA := Lib.hid ha
  have HF := Lib.hid (show decide (FewY l) = true from decide_eq_true hf)
  have HK := Lib.hid hk
  have hb : key < 0 ∨ 200 ≤ key := by
    rcases Int.lt_or_le key 0 with h | h
    · exact .inl h
    · exact .inr (Int.not_lt.1 fun h' => hk ⟨h, h'⟩)
  clear h ha hf hk
  go_enter Tryz.func4, Tryz.ntmps4
  go_upto_region 5 with (first
    | (go_at_call 6; refine (few_any _ (H.out.fr (h2.toFr.trans hf3)) HA.out).mono ?_; rw [HF.out]; rintro e w4 ⟨rfl, rfl⟩)
    | (go_at_call 12; refine (vnew_no _ key _ (.inr HK.out)).mono ?_; rintro e w3 ⟨rfl, hf3⟩)
    | (go_at_call 7; refine (((Has.here w).fr hf1).ring).mono ?_; rintro e w2 ⟨B, rfl, h2⟩)
    | (go_at_call 5; refine (small_any _).mono ?_; rintro e w1 ⟨rfl, hf1⟩))
  have HFX := Lib.hid (h2.toFr.trans hf3)
  clear hf3 h2 hf1
  rcases hb with hb | hb
  · go_wp2_with fail
    go_ret
    exact ⟨rfl, HFX.out⟩
  · have hb0 : ¬ key < 0 := by omega
    go_wp2_with fail
    go_ret
    exact ⟨rfl, HFX.out⟩

/-- What the law does once all are accepted: everything behind the first loop. -/
def ReadC (q : List Sd) (key : Int) (L : List Sg) : Prop :=
  (∀ (W w' : World) (R : Nat) (U : Thing), Has W w' ((RingT R q).sep U) → Calls Tryz.prog 31 #[.pointer (some ⟨R, 0, none⟩), .string (S (byT key L))] w' fun e w'' => ∃ B, e = .returned (.tuple #[.pointer (some ⟨B, 0, none⟩), .int .i64 0]) ∧ Has W w'' ((ViewT B R key L (vd L)).sep ((RingT R q).sep U))) ∧
  (0 < L.length → ∀ (W w' : World) (R : Nat) (U : Thing), Has W w' ((RingT R []).sep U) → Calls Tryz.prog 31 #[.pointer (some ⟨R, 0, none⟩), .string (S (byT key L))] w' fun e w'' => e = .returned (.tuple #[.pointer none, .int .i64 18]) ∧ Has W w'' ((RingT R []).sep U)) ∧
  (∀ a ∈ L, ∀ (W w' : World) (R : Nat) (U : Thing), Has W w' ((RingT R q).sep U) → Calls Tryz.prog 31 #[.pointer (some ⟨R, 0, none⟩), .string (S (byT key [a, a]))] w' fun e w'' => e = .returned (.tuple #[.pointer none, .int .i64 5]) ∧ Has W w'' ((RingT R q).sep U)) ∧
  (∀ (W w' : World) (R : Nat) (U : Thing), Has W w' ((RingT R q).sep U) → Calls Tryz.prog 31 #[.pointer (some ⟨R, 0, none⟩), .string (S (byT key L ++ [48, 59]))] w' fun e w'' => e = .returned (.tuple #[.pointer none, .int .i64 2]) ∧ Has W w'' ((RingT R q).sep U))
theorem RdP.err {W w' : World} {R : Nat} {q : List Sd} {U : Thing} {E E' k : Int} {L : List Sg} {e : Ending} (h : RdP W R q U E k L e w') (hE : E = E') (h0 : E' ≠ 0) : e = .returned (.tuple #[.pointer none, .int .i64 E']) ∧ Has W w' ((RingT R q).sep U) := by
  subst hE
  rcases h with ⟨_, h2, h3⟩ | ⟨h1, _⟩
  · exact ⟨h2, h3⟩
  · exact absurd h1 h0
theorem readC_all {q : List Sd} {key : Int} {L : List Sg} (h : LOk q key L) (hq : q.Nodup) (hql : q.length ≤ 1000000) (hk : IsKey key) (hl : L.length ≤ 40) : ReadC q key L := by
  have hby := byT_len h hql hk hl
  refine ⟨fun W w' R U hh => ?_, fun h0 W w' R U hh => ?_, fun a ha W w' R U hh => ?_, fun W w' R U hh => ?_⟩
  · obtain ⟨h1, h2, h3⟩ := rd_same h hq hql hk (by omega)
    refine (vread hh hq hql _ (by omega) (by rw [h3]; omega)).mono ?_
    rw [h1, h2, h3]
    rintro e w'' (⟨h4, _⟩ | ⟨_, B, rfl, _, h5⟩)
    · exact absurd rfl h4
    · exact ⟨B, rfl, h5⟩
  · obtain ⟨h1, h3⟩ := rd_other h hql hk (by omega) h0
    exact (vread hh List.nodup_nil (by simp) _ (by omega) (by rw [h3]; omega)).mono fun e w'' hp => hp.err h1 (by decide)
  · obtain ⟨h1, h3⟩ := rd_twice h hq hql hk ha
    have h4 := sgE_len (h.wok hql a ha)
    have h5 : (byT key [a, a]).length ≤ 900000 := by
      have h6 := num_len key hk.1 (by have := hk.2; omega)
      have h7 := num_len 2 (by omega) (by omega)
      unfold byT
      simp only [List.length_append, List.flatMap_cons, List.flatMap_nil, List.length_cons, List.length_nil]
      have : ((Wm.numE 59).f (((0 + 1 + 1 : Nat)) : Int)).length ≤ 40 := h7
      omega
    exact (vread hh hq hql _ (by omega) h3).mono fun e w'' hp => hp.err h1 (by decide)
  · obtain ⟨h1, h3⟩ := rd_more h hql hk (by omega)
    exact (vread hh hq hql _ (by simp; omega) h3).mono fun e w'' hp => hp.err h1 (by decide)
theorem signR_key {q : List Sd} {k : Int} (hk : IsKey k) (t : Txt) : signR q (k, t) = (k, t, (addN q (k, t) : Int)) ∧ signL q (k, t) = addL q (k, t) := by
  unfold signR signL
  rw [if_pos hk, if_pos hk]
  exact ⟨rfl, rfl⟩
theorem LOk.sign {q : List Sd} {k k' : Int} {l : List Sg} (h : LOk q k l) (t : Txt) : LOk (signL q (k', t)) k l := by
  unfold signL
  split
  · obtain ⟨m, hm⟩ := addL_cut q (k', t)
    rw [hm]; exact h.more m
  · exact h
theorem sign_nd {q : List Sd} {k : Int} (h : q.Nodup) (t : Txt) : (signL q (k, t)).Nodup := by
  unfold signL
  split
  · exact addL_nodup h
  · exact h
theorem sign_len (q : List Sd) (k : Int) (t : Txt) : (signL q (k, t)).length ≤ q.length + 1 := by
  unfold signL
  split
  · exact (addL_len q (k, t)).2
  · omega
theorem sign_x {W w : World} {R : Nat} {q : List Sd} {k : Int} {U : Thing} (h : Has W w ((RingT R q).sep U)) (hk : IsKey k) (hq : q.length ≤ 1000000) :
    Calls Tryz.prog 38 #[.pointer (some ⟨R, 0, none⟩), .int .i64 k, .string ⟨#[49, 59, 50, 48, 48, 48, 48, 48, 59, 49, 48, 55, 51, 55, 52, 49, 56, 50, 52, 59, 48, 58, 44]⟩] w fun e w' => e = .returned (.agg #[.int .i64 k, .string (S tX), .int .i64 (addN q (k, tX) : Nat)]) ∧ Has W w' ((RingT R (signL q (k, tX))).sep U) := by
  have h1 := h.sign k tX (by decide) hq
  rw [(signR_key hk tX).1] at h1
  exact h1
theorem sign_y {W w : World} {R : Nat} {q : List Sd} {k : Int} {U : Thing} (h : Has W w ((RingT R q).sep U)) (hk : IsKey k) (hq : q.length ≤ 1000000) :
    Calls Tryz.prog 38 #[.pointer (some ⟨R, 0, none⟩), .int .i64 k, .string ⟨#[49, 59, 48, 59, 49, 48, 55, 51, 55, 52, 49, 56, 50, 52, 59, 48, 58, 44]⟩] w fun e w' => e = .returned (.agg #[.int .i64 k, .string (S tY), .int .i64 (addN q (k, tY) : Nat)]) ∧ Has W w' ((RingT R (signL q (k, tY))).sep U) := by
  have h1 := h.sign k tY (by decide) hq
  rw [(signR_key hk tY).1] at h1
  exact h1
theorem gok_sign {q : List Sd} {k : Int} (hk : IsKey k) (hq : q.length ≤ 1000000) (t : Txt) (ht : t.length ≤ 1000) : GOk (k, t, ((addN q (k, t) : Nat) : Int)) := by
  have h1 := addN_le q (k, t)
  have h2 := hk.1
  have h3 := hk.2
  refine ⟨⟨?_, ?_⟩, ?_, ⟨?_, ?_⟩⟩ <;> simp only <;> omega
set_option maxHeartbeats 4000000 in
set_option maxRecDepth 100000 in
theorem reads_yes (v : Value) (l : List Sy) (key : Int) (w : World) (h : SySl w v l) (ha : SArg l) (hf : FewY l) (hk : IsKey key) (ht : Tab w) :
    Calls Tryz.prog 4 #[v, .int .i64 key] w fun e w' => e = .returned (.bool true) ∧ Fr w w' := by
  have H := Lib.hid h
  have HA := Lib.hid ha
  have HFW := Lib.hid hf
  have HF := Lib.hid (show decide (FewY l) = true from decide_eq_true hf)
  have HK := Lib.hid hk
  have HT := Lib.hid ht
  have hn := hf.1
  rw [← sl_len] at hn
  have HGO := Lib.hid (fun s hs => sl_gok hf (s := s) hs)
  have HQN := Lib.hid (qs_nd l)
  have HQL := Lib.hid (show (qs l).length ≤ 900000 from by have := qs_len l; have := hf.1; omega)
  have HLV := Lib.hid (fun n h => lv_ok key (qs_nd l) (sl l) n h)
  clear h ha hf hk ht
  go_enter Tryz.func4, Tryz.ntmps4
  go_upto_region 7 with (first
    | (go_at_call 9; refine (signed_any _ l H3.out (H.out) HA.out HFW.out).mono ?_; rintro e w5 ⟨a4, c4, rfl, h5⟩; have H5 := Lib.hid (h5.pull3.map fun _ h => sep_under h fun _ h => sep_turn h); clear h5)
    | (go_at_call 6; refine (few_any _ (H.out.fr H3.out.toFr) HA.out).mono ?_; rw [HF.out]; rintro e w4 ⟨rfl, rfl⟩)
    | (go_at_call 12; refine (vnew_yes h2 R key HK.out).mono ?_; rintro e w3 ⟨V, rfl, h3⟩; have H3 := Lib.hid h3.turn; clear h3)
    | (go_at_call 7; refine (((Has.here w).fr hf1).ring).mono ?_; rintro e w2 ⟨R, rfl, h2⟩)
    | (go_at_call 5; refine (small_any _).mono ?_; rintro e w1 ⟨rfl, hf1⟩))
  clear h2 hf1 HA HF H H3 HFW
  generalize qs l = q at *
  generalize sl l = ss at *
  go_wp2_with fail
  go_loopw [9] (fun i wr => ∃ k : Nat, k ≤ ss.length ∧ i = .int .i64 k ∧ Hid (Has w wr ((ViewT V R key (lv q key ss k) (vd (lv q key ss k))).sep ((RingT R q).sep ((RowT 32 3 (.slice a4 ss.length c4) ss.length (sgC ss)).sep .emp))))) (fun i _ => ss.length - (intOf i).toNat)
  case atStart => exact ⟨0, Nat.zero_le _, by go_num, H5⟩
  case round =>
    obtain ⟨k, hk, rfl, HR⟩ := hrel
    clear H5
    by_cases hlt : k < ss.length
    · obtain ⟨g, cp, hv, _, hcell⟩ := sg_at HR.out.right.right.row rfl (by omega)
      obtain ⟨rfl, rfl⟩ : a4 = some ⟨g, 0, none⟩ ∧ c4 = cp := by simpa using hv
      have hLN := (HLV.out k hk)
      have HLO := Lib.hid hLN.1
      have HLL := Lib.hid (show (lv q key ss k).length ≤ 100000 from by have := hLN.2; omega)
      have HSU := Lib.hid (lv_succ q key hlt)
      have HG := Lib.hid (HGO.out _ (List.getElem_mem hlt))
      obtain ⟨t0, t1, t2⟩ := hcell k hlt
      obtain ⟨s, hs⟩ : ∃ s, s = ss[k] := ⟨_, rfl⟩
      obtain ⟨L, hL⟩ : ∃ L, L = lv q key ss k := ⟨_, rfl⟩
      rw [← hs] at t0 t1 t2 HG HSU
      rw [← hL] at HR HLO HLL HSU
      clear hL hLN hcell hv hs
      have HAC := Lib.hid (fun w' (U : Thing) (h : Has w w' ((ViewT V R key L (vd L)).sep ((RingT R q).sep U))) => vacc h HLO.out HQN.out (by have := HQL.out; omega) HLL.out s HG.out)
      rw [← HSU.out] at HAC
      unfold sgV at HAC
      obtain ⟨sk, st, sm⟩ := s
      simp only at HAC t0 t1 t2
      go_wp2_with (go_at_call 16; refine (HAC.out _ _ HR.out).mono ?_; rintro e w6 ⟨rfl, h6⟩; have H6 := Lib.hid h6; clear h6)
      go_roundw
      case rel => exact ⟨k + 1, by omega, by go_num, H6⟩
      case measure => simp [intOf]; omega
    · obtain rfl : k = ss.length := by omega
      have hLN := HLV.out ss.length (Nat.le_refl _)
      have HLO := Lib.hid hLN.1
      have hll : (lv q key ss ss.length).length ≤ 20 := by have := hLN.2; omega
      obtain ⟨L, hL⟩ : ∃ L, L = lv q key ss ss.length := ⟨_, rfl⟩
      rw [← hL] at HR HLO hll
      have HLL := Lib.hid hll
      have HRC := Lib.hid (readC_all HLO.out HQN.out (by have := HQL.out; omega) HK.out (by omega))
      have HBL := Lib.hid (byT_len HLO.out (by have := HQL.out; omega) HK.out (by omega))
      have HBY := Lib.hid (fun w' (B : Nat) (U : Thing) (h : Has w w' ((ViewT B R key L (vd L)).sep U)) => vbytes h HK.out (by have := HLL.out; omega) (HLO.out.wok (by have := HQL.out; omega)) (HT.out.fr h.toFr))
      have H0 := Lib.hid (Has.right HR.out.pull3)
      clear hL hLN HR HGO HLV hll hn
      clear hk hlt
      -- the bytes, Read, Copy
      obtain ⟨hc1, hc2, hc3, hc4⟩ := HRC.out
      have HC1 := Lib.hid hc1
      have HC2 := Lib.hid hc2
      have HC3 := Lib.hid hc3
      have HC4 := Lib.hid hc4
      clear hc1 hc2 hc3 hc4 HRC
      have HLE := Lib.hid (fun a => byT_two (k := key) a)
      obtain ⟨y, hy⟩ : ∃ y, y = byT key L := ⟨_, rfl⟩
      rw [← hy] at HC1 HC2 HC4 HBL HBY
      clear hy
      go_upto_region 12 with (go_at_call 28; refine (HBY.out _ _ _ H0.out).mono ?_; rintro e w7 ⟨rfl, hf7⟩)
      have H7 := Lib.hid (H0.out.fr hf7).turn
      clear H0 hf7
      go_upto_region 13 with (go_at_call 31; refine (HC1.out _ _ _ _ H7.out).mono ?_; rintro e w8 ⟨B, rfl, h8⟩; have H8 := Lib.hid h8; clear h8)
      go_upto_region 14 with (go_at_call 35; refine (vcopy H8.out.pull3 (by have := HLL.out; omega) (by have := HLL.out; have := (HLO.out.hdok HQN.out (by omega)).len; omega)).mono ?_; rintro e w9 ⟨X, rfl, h9⟩; have H9 := Lib.hid (H8.out.add h9); clear h9)
      clear H7 H8 HC1
      go_upto_region 16 with fail
      go_wp2_with fail
      refine (HBY.out _ _ _ H9.out.turn).mono ?_
      rintro e w10 ⟨rfl, hf10⟩
      have H10 := Lib.hid (H9.out.fr hf10)
      clear H9 hf10
      go_wp2_with fail
      refine (HBY.out _ _ _ H10.out).mono ?_
      rintro e w11 ⟨rfl, hf11⟩
      have H11 := Lib.hid (H10.out.fr hf11)
      clear H10 hf11
      go_wp2_with fail
      refine (vclaims H11.out.turn (by have := HLL.out; omega)).mono ?_
      rintro e w12 ⟨va, rfl, hva, hf12⟩
      have HA1 := Lib.hid (GSl.own hva rfl)
      obtain ⟨aa, ca, rfl⟩ := row_form hva
      have H12 := Lib.hid (H11.out.fr hf12)
      clear H11 hf12 hva
      go_wp2_with fail
      refine (vclaims H12.out.pull4 (by have := HLL.out; omega)).mono ?_
      rintro e w13 ⟨vb, rfl, hvb, hf13⟩
      have HA2 := Lib.hid (GSl.own hvb rfl)
      obtain ⟨ab, cb, rfl⟩ := row_form hvb
      have H13 := Lib.hid (H12.out.fr hf13)
      have HA3 := Lib.hid (HA1.out.fr hf13)
      clear H12 hf13 hvb HA1
      go_wp2_with fail
      refine (sameG_any _ HA3.out HA2.out (by have := HLL.out; omega)).mono ?_
      rintro e w14 ⟨rfl, hf14⟩
      have H14 := Lib.hid (H13.out.fr hf14)
      clear H13 hf14 HA2 HA3
      go_wp2_with fail
      refine (vkey H14.out.turn).mono ?_
      rintro e w15 ⟨rfl, rfl⟩
      go_upto_region 19 with (go_at_call 34; refine (vclaims H14.out.pull4 (by have := HLL.out; omega)).mono ?_; rintro e w16 ⟨vc, rfl, hvc, hf16⟩)
      have H16 := Lib.hid (H14.out.radd hvc hf16).pull4
      obtain ⟨ac, cc, rfl⟩ := row_form hvc
      clear H14 hf16 hvc
      go_upto_if 122 with fail
      go_cut [] (fun wx => Hid (Has w wx ((RingT R q).sep ((ViewT X R key L (vd L)).sep ((ViewT B R key L (vd L)).sep ((ViewT V R key L (vd L)).sep .emp))))))
      case first =>
        by_cases h0 : 0 < L.length
        · obtain ⟨g, cp, hv, _, _⟩ := sg_at H16.out.right.row rfl h0
          obtain ⟨rfl, rfl⟩ : ac = some ⟨g, 0, none⟩ ∧ cc = cp := by simpa using hv
          have HC2b := Lib.hid (HC2.out h0)
          have HWA := Lib.hid (HLO.out.wok (by have := HQL.out; omega) _ (List.getElem_mem h0))
          have HC3a := Lib.hid (HC3.out _ (List.getElem_mem h0))
          rw [HLE.out L[0]] at HC3a
          clear hv HC2 HC3 HLE
          go_upto_region 21 with (first
            | (go_at_call 31; refine (HC2b.out _ _ _ _ h17).mono ?_; rintro e w18 ⟨rfl, h18⟩; have H18 := Lib.hid h18.right; clear h18)
            | (go_at_call 7; refine (H16.out.ring).mono ?_; rintro e w17 ⟨R2, rfl, h17⟩))
          obtain ⟨a0, a1, a2⟩ := sg_cell H18.out.right.row rfl 0 h0
          obtain ⟨a, ha⟩ : ∃ a, a = L[0] := ⟨_, rfl⟩
          rw [← ha] at a0 a1 a2 HWA HC3a
          clear ha h17 HC2b H16
          obtain ⟨ak, atx, am⟩ := a
          simp only at a0 a1 a2 HWA HC3a
          have HT18 := Lib.hid (HT.out.fr H18.out.toFr)
          have HNU := Lib.hid (fun n (h0 : 0 ≤ n) (h1 : n ≤ 9223372036854775807) w' (hf : Fr w18 w') => num_any n w' h0 h1 (HT18.out.fr hf))
          have HTX := Lib.hid (fun w' (hf : Fr w18 w') => text_any atx w' (by have := HWA.out.2; omega) (HT18.out.fr hf))
          have hl1 := num_len key HK.out.1 (by have := HK.out.2; omega)
          have hl2 := num_len 2 (by omega) (by omega)
          have hl3 := num_len am HWA.out.1.1 HWA.out.1.2
          have hl4 := text_lenE atx HWA.out.2
          have hk0 : 0 ≤ key := HK.out.1
          have hk1 : key ≤ 9223372036854775807 := by have := HK.out.2; omega
          have hm0 : 0 ≤ am := HWA.out.1.1
          have hm1 : am ≤ 9223372036854775807 := HWA.out.1.2
          have HNK := Lib.hid (fun w' hf => HNU.out key hk0 hk1 w' hf)
          have HN2 := Lib.hid (fun w' hf => HNU.out 2 (by omega) (by omega) w' hf)
          have HNM := Lib.hid (fun w' hf => HNU.out am hm0 hm1 w' hf)
          clear HNU
          generalize (Wm.numE 59).f key = n1 at *
          generalize (Wm.numE 59).f 2 = n2 at *
          generalize (Wm.numE 59).f am = n3 at *
          generalize Wm.textE.f atx = n4 at *
          obtain ⟨z2, hz2⟩ : ∃ z, z = n1 ++ n2 := ⟨_, rfl⟩
          obtain ⟨z3, hz3⟩ : ∃ z, z = z2 ++ n3 := ⟨_, rfl⟩
          obtain ⟨z4, hz4⟩ : ∃ z, z = z3 ++ n4 := ⟨_, rfl⟩
          obtain ⟨z5, hz5⟩ : ∃ z, z = z4 ++ n3 := ⟨_, rfl⟩
          obtain ⟨z6, hz6⟩ : ∃ z, z = z5 ++ n4 := ⟨_, rfl⟩
          rw [← hz2, ← hz3, ← hz4, ← hz5, ← hz6] at HC3a
          have b2 : z2.length ≤ 80 := by rw [hz2, List.length_append]; omega
          have b3 : z3.length ≤ 120 := by rw [hz3, List.length_append]; omega
          have b4 : z4.length ≤ 30000 := by rw [hz4, List.length_append]; omega
          have b5 : z5.length ≤ 31000 := by rw [hz5, List.length_append]; omega
          have s1 : ∀ w', (Op.stringOp .add (S n1) (S n2)).run Tryz.prog w' = .ok (.string (S z2)) w' := fun w' => by rw [hz2]; exact run_concat w' _ _ (by omega)
          have s2 : ∀ w', (Op.stringOp .add (S z2) (S n3)).run Tryz.prog w' = .ok (.string (S z3)) w' := fun w' => by rw [hz3]; exact run_concat w' _ _ (by omega)
          have s3 : ∀ w', (Op.stringOp .add (S z3) (S n4)).run Tryz.prog w' = .ok (.string (S z4)) w' := fun w' => by rw [hz4]; exact run_concat w' _ _ (by omega)
          have s4 : ∀ w', (Op.stringOp .add (S z4) (S n3)).run Tryz.prog w' = .ok (.string (S z5)) w' := fun w' => by rw [hz5]; exact run_concat w' _ _ (by omega)
          have s5 : ∀ w', (Op.stringOp .add (S z5) (S n4)).run Tryz.prog w' = .ok (.string (S z6)) w' := fun w' => by rw [hz6]; exact run_concat w' _ _ (by omega)
          clear hz2 hz3 hz4 hz5 hz6 b2 b3 b4 b5 hl1 hl2 hl3 hl4
          refine wp_region_cls (D := Cls w18) (by kernel_rfl) (by kernel_rfl) (Fr.drew w18) ?_
          repeat (go_big_quiet_step (first
            | (intro hw'; with_reducible rfl)
            | (intro hw'; go_at_call 36; have hF : Fr w18 _ := hw'; first
                | (with_reducible refine (HNK.out _ hF).mono ?_; exact fun e w'' h => ⟨h.1, hw'.of h.2⟩)
                | (with_reducible refine (HN2.out _ hF).mono ?_; exact fun e w'' h => ⟨h.1, hw'.of h.2⟩)
                | (with_reducible refine (HNM.out _ hF).mono ?_; exact fun e w'' h => ⟨h.1, hw'.of h.2⟩))
            | (intro hw'; go_at_call 37; exact (HTX.out _ hw').mono fun e w'' ⟨he, hf⟩ => ⟨he, hw'.of hf⟩)
            | (intro hw'; have g1 := Fr.cell hw' a1; simp only [g1]; exact ⟨rfl, rfl⟩)
            | (intro hw'; have g1 := Fr.cell hw' a2; simp only [g1]; exact ⟨rfl, rfl⟩)))
          refine wpQuiet_nil ?_
          intro w19 hw19
          have H19 := Lib.hid (H18.out.fr hw19)
          go_wp2_with (go_at_call 31; refine (HC3a.out _ _ _ _ H19.out).mono ?_; rintro e w20 ⟨rfl, h20⟩; have H20 := Lib.hid h20.turn.right; clear h20)
          go_meet
          exact H20
        · go_wp2_with fail
          go_meet
          exact Lib.hid H16.out.turn.right
      case rest =>
        rename World => w20
        have H20 := hcut
        clear hcut H16 HC2 HC3 HLE
        obtain ⟨z7, hz7⟩ : ∃ z, z = y ++ [48, 59] := ⟨_, rfl⟩
        rw [← hz7] at HC4
        have s1 : ∀ w', (Op.stringOp .add (S y) ⟨#[48, 59]⟩).run Tryz.prog w' = .ok (.string (S z7)) w' := fun w' => by rw [hz7]; exact run_concat w' y [48, 59] (by have := HBL.out; simp only [List.length_cons, List.length_nil]; omega)
        clear hz7
        go_upto_region 26 with (go_at_call 31; refine (HC4.out _ _ _ _ H20.out).mono ?_; rintro e w21 ⟨rfl, h21⟩; have H21 := Lib.hid h21; clear h21)
        clear s1 HC4 H20
        obtain ⟨mx, hmx⟩ : ∃ mx : Int, mx = (addN q (key, tX) : Nat) := ⟨_, rfl⟩
        have HSX := Lib.hid (sign_x H21.out HK.out (by have := HQL.out; omega))
        have HGX := Lib.hid (gok_sign HK.out (by have := HQL.out; omega : q.length ≤ 1000000) tX (by decide))
        rw [← hmx] at HSX HGX
        clear hmx
        have HO1 := Lib.hid (HLO.out.sign (k' := key) tX)
        have HN1 := Lib.hid (sign_nd (k := key) HQN.out tX)
        have HL1 := Lib.hid (show (signL q (key, tX)).length ≤ 900001 from by have := sign_len q key tX; have := HQL.out; omega)
        generalize signL q (key, tX) = q1 at *
        go_upto_region 27 with (go_at_call 38; refine HSX.out.mono ?_; rintro e w22 ⟨rfl, h22⟩; have H22 := Lib.hid (h22.box 32 #[.int .i64 key, .string (S tX), .int .i64 mx]).turn; clear h22)
        obtain ⟨A1, hA1⟩ : ∃ A1, A1 = w22.heap.size := ⟨_, rfl⟩
        rw [← hA1] at H22 ⊢
        clear hA1 HSX H21
        generalize w22.alloc (.cells #[.int .i64 key, .string (S tX), .int .i64 mx] 32) = w23 at *
        obtain ⟨my, hmy⟩ : ∃ my : Int, my = (addN q1 (key, tY) : Nat) := ⟨_, rfl⟩
        have HSY := Lib.hid (sign_y H22.out HK.out (by have := HL1.out; omega))
        have HGY := Lib.hid (gok_sign HK.out (by have := HL1.out; omega : q1.length ≤ 1000000) tY (by decide))
        rw [← hmy] at HSY HGY
        clear hmy
        have HO2 := Lib.hid (HO1.out.sign (k' := key) tY)
        have HN2 := Lib.hid (sign_nd (k := key) HN1.out tY)
        have HL2 := Lib.hid (show (signL q1 (key, tY)).length ≤ 1000000 from by have := sign_len q1 key tY; have := HL1.out; omega)
        clear HO1 HN1 HL1
        generalize signL q1 (key, tY) = q2 at *
        go_upto_region 28 with (go_at_call 38; refine HSY.out.mono ?_; rintro e w24 ⟨rfl, h24⟩; have H24 := Lib.hid (h24.box 32 #[.int .i64 key, .string (S tY), .int .i64 my]); clear h24)
        obtain ⟨A2, hA2⟩ : ∃ A2, A2 = w24.heap.size := ⟨_, rfl⟩
        rw [← hA2] at H24 ⊢
        clear hA2 HSY H22
        generalize w24.alloc (.cells #[.int .i64 key, .string (S tY), .int .i64 my] 32) = w25 at *
        -- Y, Ring, X1, copy, read, view
        have HAC := Lib.hid (fun w' (B : Nat) (U : Thing) (s : Sg) (hs : GOk s) (h : Has w w' ((ViewT B R key L (vd L)).sep ((RingT R q2).sep U))) => vacc h HO2.out HN2.out HL2.out (by have := HLL.out; omega) s hs)
        have HNE := Lib.hid (fun h1 h2 => last_ne HO2.out HN2.out HL2.out HK.out (by have := HLL.out; omega) (x := (key, tX, mx)) (y := (key, tY, my)) rfl rfl h1 h2)
        have hbx := H24.out.right.right.boxed
        have x0 : w25.cell? ⟨A1, 0, none⟩ = some (.int .i64 key) := cellOf hbx rfl
        have x1 : w25.cell? ⟨A1, 1, none⟩ = some (.string (S tX)) := cellOf hbx rfl
        have x2 : w25.cell? ⟨A1, 2, none⟩ = some (.int .i64 mx) := cellOf hbx rfl
        have H25 := Lib.hid (H24.out.pull4.map fun _ h => sep_under h fun _ h => sep_turn h)
        clear hbx H24
        have HACx := Lib.hid (HAC.out w25 X _ (key, tX, mx) HGX.out H25.out)
        unfold sgV at HACx
        simp only at HACx
        go_upto_region 29 with (go_at_call 16; refine HACx.out.mono ?_; rintro e w26 ⟨rfl, h26⟩; have H26 := Lib.hid h26; clear h26)
        clear H25 HACx x0 x1 x2
        have hby := H26.out.right.right.boxed
        have y0 : w26.cell? ⟨A2, 0, none⟩ = some (.int .i64 key) := cellOf hby rfl
        have y1 : w26.cell? ⟨A2, 1, none⟩ = some (.string (S tY)) := cellOf hby rfl
        have y2 : w26.cell? ⟨A2, 2, none⟩ = some (.int .i64 my) := cellOf hby rfl
        have H27 := Lib.hid (H26.out.map fun _ h => sep_under (sp6 h) fun _ h => sep_turn h)
        clear hby H26
        have HACy := Lib.hid (HAC.out w26 V _ (key, tY, my) HGY.out H27.out)
        unfold sgV at HACy
        simp only at HACy
        go_upto_region 30 with (go_at_call 16; refine HACy.out.mono ?_; rintro e w27 ⟨rfl, h27⟩; have H28 := Lib.hid h27; clear h27)
        clear H27 HACy y0 y1 y2 HAC
        go_upto_region 32 with (go_at_call 34; refine (vclaims (H28.out.map fun _ h => sp6 h) (by have := HLL.out; omega)).mono ?_; rintro e w28 ⟨vd', rfl, hvd, hf28⟩; obtain ⟨ad, cd, rfl⟩ := row_form hvd)
        have H29 := Lib.hid (H28.out.fr hf28)
        clear H28 hf28 hvd
        have HB1 := Lib.hid (vbytes H29.out.pull3 HK.out (by have := (HO2.out.acl HN2.out (key, tX, mx)).2; have := HLL.out; omega) ((HO2.out.acl HN2.out (key, tX, mx)).1.wok HL2.out) (HT.out.fr H29.out.toFr))
        have HB2 := Lib.hid (fun w' (hf : Fr w28 w') => vbytes (H29.out.fr hf) HK.out (by have := (HO2.out.acl HN2.out (key, tY, my)).2; have := HLL.out; omega) ((HO2.out.acl HN2.out (key, tY, my)).1.wok HL2.out) (HT.out.fr (H29.out.toFr.trans hf)))
        have HFF := Lib.hid H29.out.toFr
        generalize acl q2 key L (key, tX, mx) = L1 at *
        generalize acl q2 key L (key, tY, my) = L2 at *
        generalize aE q2 key L (key, tX, mx) = e1 at *
        generalize aE q2 key L (key, tY, my) = e2 at *
        obtain ⟨s1, hs1⟩ : ∃ s, s = byT key L1 := ⟨_, rfl⟩
        obtain ⟨s2, hs2⟩ : ∃ s, s = byT key L2 := ⟨_, rfl⟩
        rw [← hs1] at HB1 HNE
        rw [← hs2] at HB2 HNE
        clear hs1 hs2 HGX HGY H29 HO2 HN2 HL2
        by_cases h1 : e1 = 0
        · by_cases h2 : e2 = 0
          · have hn := HNE.out h1 h2
            subst h1 h2
            clear HNE
            have hn' : (s1 == s2) = false := by simpa using hn
            go_wp2_with fail
            refine HB1.out.mono ?_
            rintro e w29 ⟨rfl, hf29⟩
            go_wp2_with fail
            refine (HB2.out _ hf29).mono ?_
            rintro e w30 ⟨rfl, hf30⟩
            go_wp2_with fail
            go_ret
            exact ⟨rfl, HFF.out.trans (hf29.trans hf30)⟩
          · subst h1
            have h2' : (e2 != 0) = true := by simpa using h2
            clear h2 HNE
            go_wp2_with fail
            go_ret
            exact ⟨rfl, HFF.out⟩
        · have h1' : (e1 != 0) = true := by simpa using h1
          clear h1 HNE
          go_wp2_with fail
          go_ret
          exact ⟨rfl, HFF.out⟩
theorem reads_any (v : Value) (l : List Sy) (key : Int) (w : World) (ht : Tab w) (h : SySl w v l) (ha : SArg l) :
    Calls Tryz.prog 4 #[v, .int .i64 key] w fun e w' => e = .returned (.bool true) ∧ Fr w w' := by
  by_cases hf : FewY l
  · by_cases hk : IsKey key
    · exact reads_yes v l key w h ha hf hk ht
    · exact reads_nokey v l key w h ha hf hk
  · exact reads_not v l key w h ha hf
end Go.Proofs.YtapdabebiinnnaaGreatDoor
