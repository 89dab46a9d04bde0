/-
  ViewTells: the walk.
-/
import Derived.Test.YtapdabebiinnnaaGreatDoorVsx
import Derived.Test.YtapdabebiinnnaaGreatDoorYac
import Derived.Test.YtapdabebiinnnaaGreatDoorVl
namespace Go.Proofs.YtapdabebiinnnaaGreatDoor
open Go.RowKit Go.MapKept Go.Maps Go.WideMaps

/-- How Read ends. -/
def RdP (W : World) (R : Nat) (q : List Sd) (U : Thing) (E : Int) (k : Int) (L : List Sg) (e : Ending) (w' : World) : Prop :=
  (E ≠ 0 ∧ e = .returned (.tuple #[.pointer none, .int .i64 E]) ∧ Has W w' ((RingT R q).sep U)) ∨
  (E = 0 ∧ ∃ B, e = .returned (.tuple #[.pointer (some ⟨B, 0, none⟩), .int .i64 0]) ∧ LOk q k L ∧ Has W w' ((ViewT B R k L (vd L)).sep ((RingT R q).sep U)))
theorem rdE_no {q : List Sd} {s : Txt} (h : ¬ (IsKey (pky s) ∧ okP s = true)) : rdE q s = 2 := by unfold rdE; rw [if_neg h]
theorem rdE_yes {q : List Sd} {s : Txt} (h : IsKey (pky s) ∧ okP s = true) : rdE q s = rE q (pky s) [] (fin s).l := by unfold rdE; rw [if_pos h]
set_option maxHeartbeats 4000000 in
set_option maxRecDepth 100000 in
theorem vread {W w : World} {R : Nat} {q : List Sd} {U : Thing} (h : Has W w ((RingT R q).sep U)) (hqn : q.Nodup) (hq : q.length ≤ 1000000) (s : Txt) (hs : s.length ≤ 1000000) (hf : (fin s).l.length ≤ 100000) :
    Calls Tryz.prog 31 #[.pointer (some ⟨R, 0, none⟩), .string (S s)] w (RdP W R q U (rdE q s) (pky s) (fin s).l) := by
  have H := Lib.hid h
  have HQN := Lib.hid hqn
  have HQ := Lib.hid hq
  have HPA := Lib.hid (fun w => parse_any s w hs)
  have HNO := Lib.hid (fun h => rdE_no (q := q) (s := s) h)
  have HYE := Lib.hid (fun h => rdE_yes (q := q) (s := s) h)
  have HGO := Lib.hid (show ∀ x ∈ (fin s).l, x.1 = pky s ∧ GOk x from pst_ok hs s.length)
  have hL := hf
  clear h hqn hq hs hf
  obtain ⟨E, hE⟩ : ∃ E, E = rdE q s := ⟨_, rfl⟩
  obtain ⟨L, hLL⟩ : ∃ L, L = (fin s).l := ⟨_, rfl⟩
  obtain ⟨k, hk⟩ : ∃ k, k = pky s := ⟨_, rfl⟩
  obtain ⟨ok, hok⟩ : ∃ ok, ok = okP s := ⟨_, rfl⟩
  rw [← hE] at HNO HYE ⊢
  rw [← hk] at HPA HNO HYE HGO ⊢
  rw [← hLL] at HPA HYE HGO hL ⊢
  rw [← hok] at HPA HNO HYE
  clear hE hLL hk hok
  go_enter Tryz.func31, Tryz.ntmps31
  go_upto_region 4 with (go_at_call 57; refine (HPA.out _).mono ?_; rintro e w1 ⟨a, c, rfl, h1⟩)
  have H1 := Lib.hid (H.out.add h1.drop)
  clear h1 H HPA
  by_cases hk : IsKey k
  · have HK := Lib.hid hk
    cases ok with
    | false =>
      have hE2 := HNO.out (fun h => absurd h.2 (by simp))
      subst hE2
      clear hk
      go_wp2_with (go_at_call 12; refine (vnew_yes H1.out R k HK.out).mono ?_; rintro e w2 ⟨B, rfl, h2⟩; have H2 := Lib.hid h2; clear h2)
      go_ret2
      exact .inl ⟨by decide, rfl, H2.out.right.right⟩
    | true =>
      have HE := Lib.hid (HYE.out ⟨hk, rfl⟩)
      clear hk HNO HYE
      go_upto_region 7 with (go_at_call 12; refine (vnew_yes H1.out R k HK.out).mono ?_; rintro e w2 ⟨B, rfl, h2⟩; have H2 := Lib.hid h2; clear h2)
      have H3 : Hid (Has W w2 ((ViewT B R k (L.take 0) (vd (L.take 0))).sep ((RingT R q).sep ((RowT 32 3 (.slice a L.length c) L.length (sgC L)).sep U)))) := Lib.hid (H2.out.map fun _ h => sep_under h fun _ h => sep_turn h)
      have HE0 : Hid (E = rE q k (L.take 0) (L.drop 0)) := Lib.hid HE.out
      clear H1 H2 HE
      go_wp2_with fail
      go_loopw [32] (fun i wr => ∃ j : Nat, j ≤ L.length ∧ i = .int .i64 j ∧ Hid (LOk q k (L.take j)) ∧ Hid (E = rE q k (L.take j) (L.drop j)) ∧ Hid (Has W wr ((ViewT B R k (L.take j) (vd (L.take j))).sep ((RingT R q).sep ((RowT 32 3 (.slice a L.length c) L.length (sgC L)).sep U))))) (fun i _ => L.length - (intOf i).toNat)
      case atStart => exact ⟨0, Nat.zero_le _, by go_num, Lib.hid (LOk.nil _ _), HE0, H3⟩
      case round =>
        obtain ⟨j, hj, rfl, HLO, HEJ, HR⟩ := hrel
        clear H3 HE0
        by_cases hlt : j < L.length
        · obtain ⟨g, cp, hv, _, hcell⟩ := sg_at HR.out.right.right.row rfl (by omega)
          obtain ⟨rfl, rfl⟩ : a = some ⟨g, 0, none⟩ ∧ c = cp := by simpa using hv
          obtain ⟨t0, t1, t2⟩ := hcell j hlt
          have HGX := Lib.hid (HGO.out _ (List.getElem_mem hlt)).2
          have HTS := Lib.hid (List.take_succ_eq_append_getElem hlt)
          have HRD := Lib.hid (rE_round (s := L[j]) HLO.out HQN.out (L.drop (j + 1)))
          rw [List.drop_eq_getElem_cons hlt] at HEJ
          obtain ⟨x, hx⟩ : ∃ x, x = L[j] := ⟨_, rfl⟩
          obtain ⟨P, hP⟩ : ∃ P, P = L.take j := ⟨_, rfl⟩
          have hPl : P.length = j := by rw [hP, List.length_take]; omega
          rw [← hx] at t0 t1 t2 HGX HTS HRD HEJ
          rw [← hP] at HTS HRD HEJ HLO HR
          have hPj : j ≤ 100000 := by omega
          have HAC := Lib.hid (fun w' (U : Thing) (h : Has W w' ((ViewT B R k P (vd P)).sep ((RingT R q).sep U))) => vacc h HLO.out HQN.out HQ.out (by omega) x HGX.out)
          unfold sgV at HAC
          clear hx hP hcell hv
          obtain ⟨xk, xt, xm⟩ := x
          simp only at t0 t1 t2 HAC
          go_upto_region 10 with fail
          have H4 := Lib.hid ((HR.out.fr (Fr.alloc wr (.cells #[.int .i64 xk, .string (S xt), .int .i64 xm] 32))))
          have hbx := heap_alloc_new wr (.cells #[.int .i64 xk, .string (S xt), .int .i64 xm] 32)
          have x0 : (wr.alloc (.cells #[.int .i64 xk, .string (S xt), .int .i64 xm] 32)).cell? ⟨wr.heap.size, 0, none⟩ = some (.int .i64 xk) := cellOf hbx rfl
          have x1 : (wr.alloc (.cells #[.int .i64 xk, .string (S xt), .int .i64 xm] 32)).cell? ⟨wr.heap.size, 1, none⟩ = some (.string (S xt)) := cellOf hbx rfl
          have x2 : (wr.alloc (.cells #[.int .i64 xk, .string (S xt), .int .i64 xm] 32)).cell? ⟨wr.heap.size, 2, none⟩ = some (.int .i64 xm) := cellOf hbx rfl
          obtain ⟨X, hX⟩ : ∃ X, X = wr.heap.size := ⟨_, rfl⟩
          rw [← hX] at x0 x1 x2 ⊢
          clear hX hbx HR t0 t1 t2
          generalize wr.alloc (.cells #[.int .i64 xk, .string (S xt), .int .i64 xm] 32) = w4 at *
          go_upto_region 11 with (go_at_call 16; refine (HAC.out _ _ H4.out).mono ?_; rintro e w5 ⟨rfl, h5⟩; have H5 := Lib.hid h5; clear h5)
          obtain ⟨ae, hae⟩ : ∃ ae, ae = aE q k P (xk, xt, xm) := ⟨_, rfl⟩
          obtain ⟨al, hal⟩ : ∃ al, al = acl q k P (xk, xt, xm) := ⟨_, rfl⟩
          rw [← hae] at HRD ⊢
          rw [← hal] at HRD H5
          clear hae hal HAC H4 x0 x1 x2
          rcases HRD.out with ⟨he, hE⟩ | ⟨rfl, hl, hE⟩ | ⟨rfl, hl, hO, hE⟩
          · rw [hE] at HEJ
            obtain rfl := HEJ.out
            clear hE HRD
            have HNE := Lib.hid he
            have he' : (E != 0) = true := by simpa using he
            clear he
            go_wp2_with fail
            go_ret2
            exact .inl ⟨HNE.out, rfl, H5.out.right.turn.right⟩
          · rw [hE] at HEJ
            obtain rfl := HEJ.out
            obtain ⟨p, hp⟩ := H5.out.vopen
            obtain ⟨b, cb, hav⟩ := row_form hp.row
            have c2 := hp.cell 2 p.av rfl
            rw [hav, hl, hPl] at c2
            clear hE HRD hp hav
            go_wp2_with fail
            go_ret2
            exact .inl ⟨by decide, rfl, H5.out.right.turn.right⟩
          · subst hl
            rw [hE] at HEJ
            rw [← HTS.out] at HEJ H5 hO
            obtain ⟨p, hp⟩ := H5.out.vopen
            obtain ⟨b, cb, hav⟩ := row_form hp.row
            have c2 := hp.cell 2 p.av rfl
            have hlen : (L.take (j + 1)).length = j + 1 := by rw [List.length_take]; omega
            rw [hav, hlen] at c2
            have HO := Lib.hid hO
            clear hE HRD hp hav hO
            go_wp2_with fail
            go_roundw
            case rel => exact ⟨j + 1, by omega, by go_num, HO, HEJ, H5⟩
            case measure => simp [intOf]; omega
        · obtain rfl : j = L.length := by omega
          rw [List.take_length] at HLO HEJ HR
          rw [List.drop_length] at HEJ
          have hE0 : E = 0 := HEJ.out
          go_wp2_with fail
          go_ret2
          exact .inr ⟨hE0, B, rfl, HLO.out, HR.out.pull3.right⟩
  · have hE2 := HNO.out (fun h => hk h.1)
    subst hE2
    have HK := Lib.hid hk
    clear hk
    go_wp2_with (go_at_call 12; refine (vnew_no _ k _ (.inr HK.out)).mono ?_; rintro e w2 ⟨rfl, hf2⟩)
    go_ret2
    exact .inl ⟨by decide, rfl, (H1.out.fr hf2).right⟩
end Go.Proofs.YtapdabebiinnnaaGreatDoor
namespace Go.Proofs.YtapdabebiinnnaaGreatDoor
open Go.RowKit Go.MapKept Go.Maps Go.WideMaps Go.BigFrame

/-- The reference's reader. -/
def QdT (B : Nat) (r : Txt) (f : Bool) : Thing := BoxT 118 B #[.string (S r), .bool f]
section
variable {W w w' : World} {B : Nat} {r r' : Txt} {f f' : Bool} {U : Thing}
theorem Has.qd (h : Has W w ((QdT B r f).sep U)) : Rd 118 B r f w := h.boxed
theorem Has.qstep (h : Has W w ((QdT B r f).sep U)) (hr : Rd 118 B r' f' w') (hf : FrB B w w') : Has W w' ((QdT B r' f').sep U) := by
  obtain ⟨O, hT, _, hb⟩ := h.open
  exact hb _ _ ⟨O, ⟨hr, hT.2⟩, fun _ h => .inl h, (Own.refl O w).grown hf fun p hp => .inl ((hT.2 p).2 (Option.some.inj hp).symm)⟩
theorem Has.qopen (h : Has W w U) (s : Txt) : Calls Tryz.prog 58 #[.string (S s)] w fun e w' => ∃ B, e = .returned (.pointer (some ⟨B, 0, none⟩)) ∧ Has W w' ((QdT B s false).sep U) := by
  refine (qopen_any s w).mono ?_
  rintro e w' ⟨rfl, hr, hf⟩
  exact ⟨_, rfl, h.new ⟨fun k => k = w.heap.size, ⟨hr, fun _ => Iff.rfl⟩, fun k hk => .inr (by subst hk; exact ⟨Nat.le_refl _, hr.lt⟩), .of_fr hf⟩⟩
theorem Has.qNum (h : Has W w ((QdT B r f).sep U)) (hr : r.length ≤ 1000000) : Calls Tryz.prog 59 #[.pointer (some ⟨B, 0, none⟩)] w fun e w' => e = .returned (.int .i64 (rdV (Wm.numE 59) 0 r)) ∧ Has W w' ((QdT B (rdR (Wm.numE 59) r) (rdF (Wm.numE 59) r f)).sep U) := by
  refine (qNum_det h.qd (by omega)).mono ?_
  rintro e w' ⟨rfl, h1, h2⟩
  exact ⟨rfl, h.qstep h1 h2⟩
theorem Has.qText (h : Has W w ((QdT B r f).sep U)) (hr : r.length ≤ 1000000) (hfr : f = true → r = []) : Calls Tryz.prog 61 #[.pointer (some ⟨B, 0, none⟩)] w fun e w' => e = .returned (.string (S (rdV Wm.textE [] r))) ∧ Has W w' ((QdT B (rdR Wm.textE r) (rdF Wm.textE r f)).sep U) := by
  refine (qText_det h.qd (by omega) hfr).mono ?_
  rintro e w' ⟨rfl, h1, h2⟩
  exact ⟨rfl, h.qstep h1 h2⟩
end
theorem pst_shut (s : Txt) (n : Nat) : (pst s n).f = true → (pst s n).r = [] := by
  induction n with
  | zero => exact rd_shut _ (rd_shut _ (by simp))
  | succ n ih =>
    by_cases h : (pst s n).r = []
    · have e : pst s (n + 1) = pst s n := pst_stay h 1
      rw [e]; exact ih
    · rw [pst_step h]
      exact rd_shut _ (rd_shut _ ih)
theorem pnn_in (s : Txt) : 0 ≤ pnn s ∧ pnn s ≤ 9223372036854775807 := rd_in (rd1 s)
theorem rE_had {q : List Sd} {k : Int} {l : List Sg} {s : Sg} (h : LOk q k l) (hq : q.Nodup) (cs : List Sg) :
    (hadB l s = true ∧ rE q k l (s :: cs) = 5) ∨ (hadB l s = false ∧ aE q k l s ≠ 0 ∧ rE q k l (s :: cs) = aE q k l s) ∨
    (hadB l s = false ∧ aE q k l s = 0 ∧ acl q k l s = l ++ [s] ∧ LOk q k (l ++ [s]) ∧ rE q k l (s :: cs) = rE q k (l ++ [s]) cs) := by
  by_cases hm : s ∈ l
  · exact .inl ⟨hadB_yes hm, by rw [rE, if_pos hm]⟩
  · right
    by_cases he : aE q k l s = 0
    · have hg := (aE_zero h hq s).1 he
      exact .inr ⟨hadB_no hm, he, acl_new h hq hg hm, hg.add h hm, by rw [rE, if_neg hm, if_neg (by simpa using he)]⟩
    · exact .inl ⟨hadB_no hm, he, by rw [rE, if_neg hm, if_pos he]⟩

/-- How Read ends. -/
def RRdP (W : World) (Q : Nat) (q : List Sd) (U : Thing) (E : Int) (k : Int) (L : List Sg) (e : Ending) (w' : World) : Prop :=
  (E ≠ 0 ∧ e = .returned (.tuple #[.pointer none, .int .i64 E]) ∧ Has W w' ((RefT Q q).sep U)) ∨
  (E = 0 ∧ ∃ B, e = .returned (.tuple #[.pointer (some ⟨B, 0, none⟩), .int .i64 0]) ∧ LOk q k L ∧ Has W w' ((RViewT B Q k L).sep ((RefT Q q).sep U)))
set_option maxHeartbeats 4000000 in
set_option maxRecDepth 100000 in
theorem rvreadall {W w : World} {Q : Nat} {q : List Sd} {U : Thing} (h : Has W w ((RefT Q q).sep U)) (hqn : q.Nodup) (hq : q.length ≤ 1000000) (s : Txt) (hs : s.length ≤ 1000000) (hf : (fin s).l.length ≤ 100000) :
    Calls Tryz.prog 32 #[.pointer (some ⟨Q, 0, none⟩), .string (S s)] w (RRdP W Q q U (rdE q s) (pky s) (fin s).l) := by
  obtain ⟨i0, hi, hz0, hz1, hz2⟩ := info_parts infoSg
  have HIN := Lib.hid hi
  have H := Lib.hid h
  have HQN := Lib.hid hqn
  have HQ := Lib.hid hq
  have HR1 := Lib.hid (show (rd1 s).length ≤ 1000000 from Nat.le_trans (rd_len _ _) hs)
  have HS := Lib.hid hs
  have HNO := Lib.hid (fun h => rdE_no (q := q) (s := s) h)
  have HYE := Lib.hid (fun h => rdE_yes (q := q) (s := s) h)
  have HGO := Lib.hid (show ∀ x ∈ (fin s).l, x.1 = pky s ∧ GOk x from pst_ok hs s.length)
  have HPS := Lib.hid (fun n h => pst_step (s := s) (n := n) h)
  have HPG := Lib.hid (fun n h => pst_go (s := s) (n := n) h)
  have HSH := Lib.hid (fun n => pst_shut s n)
  have HOR := Lib.hid (fun n h1 h2 h3 => okP_ref (s := s) (n := n) h1 h2 h3)
  have HL := Lib.hid hf
  have hn0 := (pnn_in s).1
  have hn1 := (pnn_in s).2
  clear h hqn hq hs hf hi
  obtain ⟨E, hE⟩ : ∃ E, E = rdE q s := ⟨_, rfl⟩
  obtain ⟨L, hLL⟩ : ∃ L, L = (fin s).l := ⟨_, rfl⟩
  obtain ⟨k, hk⟩ : ∃ k, k = pky s := ⟨_, rfl⟩
  obtain ⟨ok, hok⟩ : ∃ ok, ok = okP s := ⟨_, rfl⟩
  obtain ⟨nn, hnn⟩ : ∃ nn, nn = pnn s := ⟨_, rfl⟩
  rw [← hE] at HNO HYE ⊢
  rw [← hk] at HNO HYE HGO ⊢
  simp only [← hk] at HPS
  rw [← hLL] at HYE HGO HL ⊢
  rw [← hok] at HNO HYE
  simp only [← hLL, ← hok, ← hnn] at HOR
  rw [← hnn] at hn0 hn1
  have HKE : Hid (rdV (Wm.numE 59) 0 s = k) := Lib.hid hk.symm
  have HNE : Hid (rdV (Wm.numE 59) 0 (rd1 s) = nn) := Lib.hid hnn.symm
  clear hE hLL hk hok hnn
  go_enter Tryz.func32, Tryz.ntmps32
  go_upto_region 4 with (go_at_call 58; refine (H.out.qopen s).mono ?_; rintro e w1 ⟨B, rfl, h1⟩; have H1 := Lib.hid h1; clear h1)
  go_upto_region 5 with (go_at_call 59; refine (H1.out.qNum HS.out).mono ?_; rw [HKE.out]; rintro e w2 ⟨rfl, h2⟩; have H2 : Hid (Has W w2 ((QdT B (rd1 s) (rdF (Wm.numE 59) s false)).sep ((RefT Q q).sep U))) := Lib.hid h2; clear h2)
  go_upto_region 6 with (go_at_call 59; refine (H2.out.qNum HR1.out).mono ?_; rw [HNE.out]; rintro e w3 ⟨rfl, h3⟩; have H3 : Hid (Has W w3 ((QdT B (rd2 s) (rdF (Wm.numE 59) (rd1 s) (rdF (Wm.numE 59) s false))).sep ((RefT Q q).sep U))) := Lib.hid h3; clear h3)
  have H0 : Hid (Has W w3 ((RowT 32 3 (.slice none 0 0) (pst s 0).l.length (sgC (pst s 0).l)).sep ((QdT B (pst s 0).r (pst s 0).f).sep ((RefT Q q).sep U)))) := Lib.hid (H3.out.nilRow 32 3)
  clear H H1 H2 H3 HKE HNE HR1
  go_wp2_with fail
  go_loopw [9] (fun cv wr => ∃ (j : Nat) (a0 : Option Addr) (c0 : Nat), cv = .slice a0 j c0 ∧ (j : Int) ≤ nn ∧ Hid ((pst s j).l.length = j) ∧ Hid (Has W wr ((RowT 32 3 (.slice a0 j c0) j (sgC (pst s j).l)).sep ((QdT B (pst s j).r (pst s j).f).sep ((RefT Q q).sep U))))) (fun cv _ => s.length - lenOf cv)
  case atStart => exact ⟨0, none, 0, rfl, hn0, Lib.hid rfl, H0⟩
  case round =>
    obtain ⟨j, a0, c0, rfl, hjn, HJL, HR⟩ := hrel
    clear H0
    have HLE := Lib.hid (qleft_any HR.out.turn.qd)
    obtain ⟨cb, hcb⟩ : ∃ cb : Bool, cb = decide ((j : Int) < nn ∧ (pst s j).r ≠ []) := ⟨_, rfl⟩
    have HCB := Lib.hid hcb
    clear hcb
    go_upto_region 7 with fail
    go_cut [31] (fun c wx => c = .bool cb ∧ wx = wr)
    case first =>
      by_cases h1 : (j : Int) < nn
      · by_cases h2 : (pst s j).r = []
        · obtain rfl : cb = false := by rw [HCB.out]; exact decide_eq_false (fun h => h.2 h2)
          rw [h2] at HLE
          clear h2
          go_wp2_with (go_at_call 60; refine HLE.out.mono ?_; rintro e w5 ⟨rfl, rfl⟩)
          go_meet
          exact ⟨rfl, rfl⟩
        · obtain rfl : cb = true := by rw [HCB.out]; exact decide_eq_true ⟨h1, h2⟩
          have hp : 0 < (pst s j).r.length := List.length_pos_iff.2 h2
          generalize (pst s j).r = r at *
          clear h2
          go_wp2_with (go_at_call 60; refine HLE.out.mono ?_; rintro e w5 ⟨rfl, rfl⟩)
          go_meet
          exact ⟨rfl, rfl⟩
      · obtain rfl : cb = false := by rw [HCB.out]; exact decide_eq_false (fun h => h1 h.1)
        go_wp2_with fail
        go_meet
        exact ⟨rfl, rfl⟩
    case rest =>
      rename World => wx
      obtain ⟨rfl, rfl⟩ := hcut
      clear HLE
      cases cb with
      | true =>
        obtain ⟨hlt, hne⟩ := of_decide_eq_true HCB.out.symm
        obtain ⟨_, hj2, hj3⟩ := HPG.out j hne
        have HST := Lib.hid (HPS.out j hne)
        have HSJ := Lib.hid (HSH.out j)
        have HJ2 := Lib.hid hj2
        obtain ⟨r, hr⟩ : ∃ r, r = (pst s j).r := ⟨_, rfl⟩
        obtain ⟨f, hf⟩ : ∃ f, f = (pst s j).f := ⟨_, rfl⟩
        obtain ⟨l, hl⟩ : ∃ l, l = (pst s j).l := ⟨_, rfl⟩
        rw [← hr] at HST HR HSJ hj3
        rw [← hf] at HST HR HSJ
        rw [← hl] at HST HR HJL
        have HRL := Lib.hid (show r.length ≤ 1000000 by have := HS.out; omega)
        have HRL1 := Lib.hid (show (pR1 r).length ≤ 1000000 by have := pR1_len r; have := HS.out; omega)
        have HSJ1 := Lib.hid (show rdF (Wm.numE 59) r f = true → pR1 r = [] from rd_shut _ HSJ.out)
        have HLB := Lib.hid (show j + 1 ≤ 1000000 by have := HS.out; omega)
        clear hr hf hl hne hj2 hj3 HCB HOR HPS HPG HSH HNO HYE HGO HL
        go_upto_region 9 with (go_at_call 59; refine (HR.out.turn.qNum HRL.out).mono ?_; rintro e w6 ⟨rfl, h6⟩; have H6 : Hid (Has W w6 ((QdT B (pR1 r) (rdF (Wm.numE 59) r f)).sep ((RowT 32 3 (.slice a0 j c0) j (sgC l)).sep ((RefT Q q).sep U)))) := Lib.hid h6; clear h6)
        go_upto_region 10 with (go_at_call 61; refine (H6.out.qText HRL1.out HSJ1.out).mono ?_; rintro e w7 ⟨rfl, h7⟩; have H7 : Hid (Has W w7 ((RowT 32 3 (.slice a0 j c0) j (sgC l)).sep ((QdT B (pR2 r) (pF2 r f)).sep ((RefT Q q).sep U)))) := Lib.hid (Has.turn h7); clear h7)
        obtain ⟨mk, hmk⟩ : ∃ mk, mk = pMk r := ⟨_, rfl⟩
        obtain ⟨tx, htx⟩ : ∃ tx, tx = pTx r := ⟨_, rfl⟩
        have e1 : rdV (Wm.numE 59) 0 r = mk := hmk.symm
        have e2 : rdV Wm.textE [] (pR1 r) = tx := htx.symm
        rw [← hmk, ← htx] at HST
        rw [e1, e2]
        clear hmk htx e1 e2 H6 HR HSJ HSJ1 HRL HRL1
        go_wp2_with (at_builtin; refine wpList_app rfl _ _ 29 rfl 32 i0 (.agg #[.int .i64 0, .string (S []), .int .i64 0]) 3 32 Tryz.underlying29 HIN.out hz0 hz1 hz2 rfl (by decide) rfl H7.out 1 1 [.int .i64 k, .string (S tx), .int .i64 mk] rfl rfl (by simp [Value.oneCell']) (by decide) HLB.out (by decide) ?_; intro g1 cap1 w8 h8; have H8 := Lib.hid h8; clear h8)
        have HN : Hid (Has W w8 ((RowT 32 3 (.slice (some ⟨g1, 0, none⟩) (j + 1) cap1) (j + 1) (sgC (pst s (j + 1)).l)).sep ((QdT B (pst s (j + 1)).r (pst s (j + 1)).f).sep ((RefT Q q).sep U)))) := Lib.hid (by
          rw [HST.out]
          simp only [sgC_append]
          exact H8.out)
        have HL1 := Lib.hid (show (pst s (j + 1)).l.length = j + 1 by rw [HST.out]; simp [HJL.out])
        clear H7 H8 HST HJL
        go_roundw
        case rel => exact ⟨j + 1, some ⟨g1, 0, none⟩, cap1, rfl, by omega, HL1, HN⟩
        case measure => have := HJ2.out; simp [lenOf]; omega
      | false =>
        have hex : (j : Int) = nn ∨ (pst s j).r = [] := by
          by_cases h1 : (j : Int) < nn
          · by_cases h2 : (pst s j).r = []
            · exact .inr h2
            · have h3 := HCB.out
              rw [decide_eq_true ⟨h1, h2⟩] at h3
              exact absurd h3 (by simp)
          · exact .inl (by omega)
        obtain ⟨ho1, ho2⟩ := HOR.out j HJL.out hjn hex
        have HO1 := Lib.hid ho1
        have HO2 := Lib.hid ho2
        have HDO := Lib.hid (fun w' (V : Thing) (h : Has W w' ((QdT B (pst s j).r (pst s j).f).sep V)) => qdone_any h.qd)
        obtain ⟨dn, hdn⟩ : ∃ dn, dn = (!(pst s j).f && decide ((pst s j).r = [])) := ⟨_, rfl⟩
        rw [← hdn] at HDO HO1
        have H9 := Lib.hid HR.out.turn
        clear HCB HR hex ho1 ho2 hdn HPS HPG HSH HOR
        generalize (pst s j).r = r at *
        generalize (pst s j).f = f at *
        by_cases hk : IsKey k
        · have HK := Lib.hid hk
          go_upto_region 12 with (go_at_call 13; refine (rvnew_yes H9.out Q k HK.out).mono ?_; rintro e w10 ⟨V, rfl, h10⟩; have H10 := Lib.hid h10.turn; clear h10)
          have HDN := Lib.hid (HDO.out _ _ H10.out)
          clear HDO H9
          cases ok with
          | false =>
            have hE2 := HNO.out (fun h => absurd h.2 (by simp))
            subst hE2
            have HFIN := Lib.hid (show Has W w10 ((RefT Q q).sep U) from H10.out.right.right.right)
            cases dn with
            | false =>
              go_wp2_with (go_at_call 62; refine HDN.out.mono ?_; rintro e w11 ⟨rfl, rfl⟩)
              go_ret2
              exact .inl ⟨by decide, rfl, HFIN.out⟩
            | true =>
              have hne : ¬ ((j : Int) = nn) := fun h => by
                have h3 := HO1.out
                rw [decide_eq_true h] at h3
                exact absurd h3 (by simp)
              clear HO1
              go_wp2_with (go_at_call 62; refine HDN.out.mono ?_; rintro e w11 ⟨rfl, rfl⟩)
              go_ret2
              exact .inl ⟨by decide, rfl, HFIN.out⟩
          | true =>
            have h3 := HO1.out
            rw [Bool.and_eq_true, decide_eq_true_eq] at h3
            obtain ⟨hjn', rfl⟩ := h3
            have hLp := HO2.out rfl
            have hjL : j = L.length := by rw [← hLp]; exact HJL.out.symm
            rw [hLp] at H10
            subst hjn'
            subst hjL
            have HE := Lib.hid (HYE.out ⟨hk, rfl⟩)
            have H11 : Hid (Has W w10 ((RViewT V Q k (L.take 0)).sep ((RefT Q q).sep ((RowT 32 3 (.slice a0 L.length c0) L.length (sgC L)).sep U)))) := Lib.hid (H10.out.right.map fun _ h => sep_under h fun _ h => sep_turn h)
            have HE0 : Hid (E = rE q k (L.take 0) (L.drop 0)) := Lib.hid HE.out
            clear hk HNO HYE HO1 HO2 HJL hLp hjn hn0 hn1
            go_upto_region 14 with (go_at_call 62; refine HDN.out.mono ?_; rintro e w11 ⟨rfl, rfl⟩)
            clear HDN H10 HE
            go_wp2_with fail
            go_loopw [13] (fun i wr => ∃ j : Nat, j ≤ L.length ∧ i = .int .i64 j ∧ Hid (LOk q k (L.take j)) ∧ Hid (E = rE q k (L.take j) (L.drop j)) ∧ Hid (Has W wr ((RViewT V Q k (L.take j)).sep ((RefT Q q).sep ((RowT 32 3 (.slice a0 L.length c0) L.length (sgC L)).sep U))))) (fun i _ => L.length - (intOf i).toNat)
            case atStart => exact ⟨0, Nat.zero_le _, by go_num, Lib.hid (LOk.nil _ _), HE0, H11⟩
            case round =>
              obtain ⟨j, hj, rfl, HLO, HEJ, HR⟩ := hrel
              have hLb := HL.out
              clear H11 HE0
              by_cases hlt : j < L.length
              · obtain ⟨g, cp, hv, _, hcell⟩ := sg_at HR.out.right.right.row rfl (by omega)
                obtain ⟨rfl, rfl⟩ : a0 = some ⟨g, 0, none⟩ ∧ c0 = cp := by simpa using hv
                obtain ⟨t0, t1, t2⟩ := hcell j hlt
                have HGX := Lib.hid (HGO.out _ (List.getElem_mem hlt)).2
                have HTS := Lib.hid (List.take_succ_eq_append_getElem hlt)
                have HRD := Lib.hid (rE_had (s := L[j]) HLO.out HQN.out (L.drop (j + 1)))
                rw [List.drop_eq_getElem_cons hlt] at HEJ
                obtain ⟨x, hx⟩ : ∃ x, x = L[j] := ⟨_, rfl⟩
                obtain ⟨P, hP⟩ : ∃ P, P = L.take j := ⟨_, rfl⟩
                have hPl : P.length ≤ 100000 := by rw [hP, List.length_take]; have := HL.out; omega
                rw [← hx] at t0 t1 t2 HGX HTS HRD HEJ
                rw [← hP] at HTS HRD HEJ HLO HR
                have HHA := Lib.hid (rvhad HR.out hPl x)
                have HAC := Lib.hid (fun w' (V' : Thing) (h : Has W w' ((RViewT V Q k P).sep ((RefT Q q).sep V'))) => rvacc h HLO.out HQN.out HQ.out hPl x HGX.out)
                unfold sgV at HAC HHA
                have HTC : Hid (∀ w', Fr wr w' → w'.cell? ⟨g, j * 3, none⟩ = some (.int .i64 x.1) ∧ w'.cell? ⟨g, j * 3 + 1, none⟩ = some (.string (S x.2.1)) ∧ w'.cell? ⟨g, j * 3 + 2, none⟩ = some (.int .i64 x.2.2)) := Lib.hid fun w' hf => ⟨hf.cell t0, hf.cell t1, hf.cell t2⟩
                clear hx hP hcell hv
                obtain ⟨xk, xt, xm⟩ := x
                simp only at t0 t1 t2 HAC HHA HTC
                obtain ⟨hd, hhd⟩ : ∃ hd, hd = hadB P (xk, xt, xm) := ⟨_, rfl⟩
                obtain ⟨ae, hae⟩ : ∃ ae, ae = aE q k P (xk, xt, xm) := ⟨_, rfl⟩
                obtain ⟨al, hal⟩ : ∃ al, al = acl q k P (xk, xt, xm) := ⟨_, rfl⟩
                rw [← hhd] at HHA HRD
                rw [← hae] at HRD HAC
                rw [← hal] at HRD HAC
                clear hhd hae hal
                rcases HRD.out with ⟨rfl, hE⟩ | ⟨rfl, he, hE⟩ | ⟨rfl, rfl, hl, hO, hE⟩
                · rw [hE] at HEJ
                  obtain rfl := HEJ.out
                  clear hE HRD HAC
                  go_wp2_with (go_at_call 52; refine HHA.out.mono ?_; rintro e w12 ⟨rfl, hf⟩)
                  go_ret2
                  exact .inl ⟨by decide, rfl, (HR.out.fr hf).right.turn.right⟩
                · rw [hE] at HEJ
                  obtain rfl := HEJ.out
                  have HNE := Lib.hid he
                  have he' : (E != 0) = true := by simpa using he
                  clear hE HRD he
                  go_upto_region 19 with (go_at_call 52; refine HHA.out.mono ?_; rintro e w12 ⟨rfl, hf⟩)
                  have H12 := Lib.hid (HR.out.fr hf)
                  obtain ⟨t0, t1, t2⟩ := HTC.out _ hf
                  clear HR hf HHA
                  go_wp2_with (go_at_call 17; refine (HAC.out _ _ H12.out).mono ?_; rintro e w13 ⟨rfl, h13⟩; have H13 := Lib.hid h13; clear h13)
                  go_ret2
                  exact .inl ⟨HNE.out, rfl, H13.out.right.turn.right⟩
                · subst hl
                  rw [hE] at HEJ
                  rw [← HTS.out] at HEJ HAC hO
                  have HO := Lib.hid hO
                  clear hE HRD hO
                  go_upto_region 19 with (go_at_call 52; refine HHA.out.mono ?_; rintro e w12 ⟨rfl, hf⟩)
                  have H12 := Lib.hid (HR.out.fr hf)
                  obtain ⟨t0, t1, t2⟩ := HTC.out _ hf
                  clear HR hf HHA
                  go_wp2_with (go_at_call 17; refine (HAC.out _ _ H12.out).mono ?_; rintro e w13 ⟨rfl, h13⟩; have H13 := Lib.hid h13; clear h13)
                  go_roundw
                  case rel => exact ⟨j + 1, by omega, by go_num, HO, HEJ, H13⟩
                  case measure => simp [intOf]; omega
              · obtain rfl : j = L.length := by omega
                rw [List.take_length] at HLO HEJ HR
                rw [List.drop_length] at HEJ
                have hE0 : E = 0 := HEJ.out
                go_wp2_with fail
                go_ret2
                exact .inr ⟨hE0, V, rfl, HLO.out, HR.out.pull3.right⟩
        · have hE2 := HNO.out (fun h => hk h.1)
          subst hE2
          have HK := Lib.hid hk
          clear hk
          go_upto_region 12 with (go_at_call 13; refine (rvnew_no _ k _ HK.out).mono ?_; rintro e w10 ⟨rfl, hf10⟩)
          have H10 := Lib.hid (H9.out.fr hf10)
          have HDN := Lib.hid (HDO.out _ _ H10.out)
          have HFIN := Lib.hid (show Has W w10 ((RefT Q q).sep U) from H10.out.right.right)
          clear HDO H9 hf10 HO1 HO2
          cases dn with
          | false =>
            go_wp2_with (go_at_call 62; refine HDN.out.mono ?_; rintro e w11 ⟨rfl, rfl⟩)
            go_ret2
            exact .inl ⟨by decide, rfl, HFIN.out⟩
          | true =>
            by_cases hne : (j : Int) = nn
            · subst hne
              go_wp2_with (go_at_call 62; refine HDN.out.mono ?_; rintro e w11 ⟨rfl, rfl⟩)
              go_ret2
              exact .inl ⟨by decide, rfl, HFIN.out⟩
            · go_wp2_with (go_at_call 62; refine HDN.out.mono ?_; rintro e w11 ⟨rfl, rfl⟩)
              go_ret2
              exact .inl ⟨by decide, rfl, HFIN.out⟩
end Go.Proofs.YtapdabebiinnnaaGreatDoor
namespace Go.Proofs.YtapdabebiinnnaaGreatDoor
open Go.RowKit Go.MapKept Go.Maps Go.WideMaps

/-! ### slices.Clone of claims -/
theorem ClAt.cells {w : World} {b o : Nat} {l : List C} (h : ClAt w b o l) : ∀ j u, (cC l)[j]? = some u → w.cell? ((⟨b, o, none⟩ : Addr).add j) = some u := by
  intro j u hu
  have hj : j < l.length * 4 := by have := (List.getElem?_eq_some_iff.1 hu).1; rwa [cC_length] at this
  have hi : j / 4 < l.length := by omega
  have h1 := h (j / 4) hi
  have h2 := cC_get l (j / 4) hi
  rw [Addr.add_mid]
  have hm : j % 4 = 0 ∨ j % 4 = 1 ∨ j % 4 = 2 ∨ j % 4 = 3 := by omega
  rcases hm with hm | hm | hm | hm
  · have e : j = 4 * (j / 4) := by omega
    rw [e] at hu
    rw [h2.1] at hu
    rw [← hu, ← h1.1]
    congr 2
    omega
  · have e : j = 4 * (j / 4) + 1 := by omega
    rw [e] at hu
    rw [h2.2.1] at hu
    rw [← hu, ← h1.2.1]
    congr 2
    omega
  · have e : j = 4 * (j / 4) + 2 := by omega
    rw [e] at hu
    rw [h2.2.2.1] at hu
    rw [← hu, ← h1.2.2.1]
    congr 2
    omega
  · have e : j = 4 * (j / 4) + 3 := by omega
    rw [e] at hu
    rw [h2.2.2.2] at hu
    rw [← hu, ← h1.2.2.2]
    congr 2
    omega
def CloneC (l : List C) (w : World) (e : Ending) (w' : World) : Prop := ∃ v', e = .returned v' ∧ w'.ownsRow w.heap.size 35 4 v' l.length (cC l) ∧ Fr w w'
set_option maxHeartbeats 1000000 in
set_option maxRecDepth 100000 in
theorem cclone_some (ad : Addr) (c : Nat) (l : List C) (w : World) (hc : ∀ j u, (cC l)[j]? = some u → w.cell? (ad.add j) = some u) (hn : l.length ≤ 1000000) :
    Calls Tryz.prog 67 #[.slice (some ad) l.length c] w (CloneC l w) := by
  obtain ⟨i0, hi, hz0, hz1, hz2⟩ := info_parts infoCl
  have HIN := Lib.hid hi
  have hq := fun w => Lib.run_eql_slice_nil (P := Tryz.prog) w 83 _ (some ad) l.length c 0 0 Tryz.underlying83
  have hnb : (0 + l.length) * 40 ≤ 140737488355328 := by omega
  have HC : Hid (∀ j u, (cC l)[j]? = some u → (w.alloc (.cells #[] 35)).cell? (ad.add j) = some u) := Lib.hid (fun j u hu => (Fr.alloc w (.cells #[] 35)).cell (hc j u hu))
  have HO : Hid ((w.alloc (.cells #[] 35)).ownsRow w.heap.size 35 4 (.slice (some ⟨w.heap.size, 0, none⟩) 0 0) 0 []) := Lib.hid (World.ownsRow_lit (base := w.heap.size) (e := 35) (size := 4) w #[] 0 (Nat.le_refl _) (Nat.zero_le _) rfl)
  clear hi hc
  go_enter Tryz.func67, Tryz.ntmps67
  go_wp2_with ((at_builtin; refine wpList_append_own _ rfl (.tmp 5) (.tmp 6) 83 rfl w.heap.size 35 i0 (.agg #[.int .i64 0, .int .i64 0, .int .i64 0, .string (S [])]) 4 40 Tryz.underlying83 HIN.out hz0 hz1 hz2 rfl (by decide) _ _ _ rfl HO.out ad l.length c (cC l) rfl (cC_length l) HC.out (cC_one l) (by unfold maxLen; omega) hnb (by simp) ?_; intro v1 w1 hown1 hgrow1 _))
  have hg : w1.ownsRow w.heap.size 35 4 v1 l.length (cC l) := by
    have := hown1
    rw [Nat.zero_add, List.nil_append] at this
    exact this
  have hf : Fr w w1 := ⟨hgrow1.os, hgrow1.tape, hgrow1.output, by have := hgrow1.size; simp at this; omega, fun k hk _ => by
    rw [hgrow1.block k (by simp; omega) (fun e => Nat.ne_of_lt hk (Option.some.inj e))]
    exact (Fr.alloc w _).block hk⟩
  go_ret
  exact ⟨v1, rfl, hg, hf⟩
set_option maxHeartbeats 1000000 in
set_option maxRecDepth 100000 in
theorem cclone_nil (c : Nat) (w : World) : Calls Tryz.prog 67 #[.slice none 0 c] w (CloneC [] w) := by
  have hq := fun w => Lib.run_eql_slice_nil (P := Tryz.prog) w 83 _ none 0 c 0 0 Tryz.underlying83
  go_enter Tryz.func67, Tryz.ntmps67
  go_wp2_with fail
  go_ret
  exact ⟨_, rfl, World.ownsRow_nil _ _ _ _, Fr.refl _⟩
set_option maxRecDepth 100000 in
theorem cclone_any (v : Value) (l : List C) (w : World) (h : ClSl w v l) (hn : l.length ≤ 1000000) : Calls Tryz.prog 67 #[v] w (CloneC l w) := by
  rcases h with ⟨rfl, a, c, rfl⟩ | ⟨b, o, c, rfl, h⟩
  · cases a with
    | none => exact cclone_nil c w
    | some ad => exact cclone_some ad c [] w (fun j u hu => by simp [cC] at hu) (by decide)
  · exact cclone_some ⟨b, o, none⟩ c l w h.cells hn


/-! ### Copy -/
theorem copy_parts {W w : World} {X R : Nat} {k : Int} {l : List Sg} {d : VD} {p : VQ}
    (h : Has W w ((BoxT 85 X (p.cells R k)).sep ((RowT 35 4 p.hv d.hd.length (cC d.hd)).sep ((MapT p.mA (abV d) p.n4).sep ((MapT p.mF (fiV d) p.n3).sep ((MeT p.mE (enV d) p.n2).sep ((MbT p.mM (mmV d) p.n1).sep ((RowT 32 3 p.av l.length (sgC l)).sep .emp)))))))) : Has W w (ViewT X R k l d) :=
  (VP.close (p := p) (U := .emp) (h.map fun _ h => sep_under h fun _ h => sep_under (sp6 h) fun _ h => sep_under (sp5 h) fun _ h => sep_under (sp4 h) fun _ h => sep_under (sp3 h) fun _ h => sep_turn h)).drop
set_option maxHeartbeats 4000000 in
set_option maxRecDepth 100000 in
theorem vcopy {W w : World} {B R : Nat} {k : Int} {l : List Sg} {d : VD} {U : Thing} (h : Has W w ((ViewT B R k l d).sep U)) (hl : l.length ≤ 1000000) (hd : d.hd.length ≤ 1000000) :
    Calls Tryz.prog 35 #[.pointer (some ⟨B, 0, none⟩)] w fun e w' => ∃ B', e = .returned (.pointer (some ⟨B', 0, none⟩)) ∧ Has w w' (ViewT B' R k l d) := by
  obtain ⟨p, hp⟩ := h.vopen
  have HL := Lib.hid hl
  have HDL := Lib.hid hd
  have HG := Lib.hid (GSl.own hp.row rfl)
  have HC := Lib.hid (ClSl.own hp.hd rfl)
  have HM := Lib.hid hp.mm
  have HE := Lib.hid hp.en
  have HF := Lib.hid hp.fi
  have HA := Lib.hid hp.ab
  obtain ⟨a1, cp1, hav⟩ := row_form hp.row
  obtain ⟨a2, cp2, hhv⟩ := row_form hp.hd
  have c0 := hp.cell 0 (.pointer (some ⟨R, 0, none⟩)) rfl
  have c1 := hp.cell 1 (.int .i64 k) rfl
  have c2 := hp.cell 2 p.av rfl
  have c3 := hp.cell 3 (.map (some p.mM)) rfl
  have c4 := hp.cell 4 (.map (some p.mE)) rfl
  have c5 := hp.cell 5 (.map (some p.mF)) rfl
  have c6 := hp.cell 6 (.map (some p.mA)) rfl
  have c7 := hp.cell 7 p.hv rfl
  clear hp h hl hd
  obtain ⟨av, mM, mE, mF, mA, hv, n1, n2, n3, n4⟩ := p
  simp only at HG HC HM HE HF HA hav hhv c0 c1 c2 c3 c4 c5 c6 c7
  subst hav hhv
  have HCB := Lib.hid (show ∀ w', Fr w w' → w'.cell? ⟨B, 2, none⟩ = some (.slice a1 l.length cp1) ∧ w'.cell? ⟨B, 3, none⟩ = some (.map (some mM)) ∧ w'.cell? ⟨B, 4, none⟩ = some (.map (some mE)) ∧ w'.cell? ⟨B, 5, none⟩ = some (.map (some mF)) ∧ w'.cell? ⟨B, 6, none⟩ = some (.map (some mA)) ∧ w'.cell? ⟨B, 7, none⟩ = some (.slice a2 d.hd.length cp2) from fun w' hf => ⟨hf.cell c2, hf.cell c3, hf.cell c4, hf.cell c5, hf.cell c6, hf.cell c7⟩)
  go_enter Tryz.func35, Tryz.ntmps35
  go_upto_region 2 with fail
  have H1 := Lib.hid ((Has.here w).box 85 #[.pointer (some ⟨R, 0, none⟩), .int .i64 k, .slice a1 l.length cp1, .map (some mM), .map (some mE), .map (some mF), .map (some mA), .slice a2 d.hd.length cp2])
  obtain ⟨X, hX⟩ : ∃ X, X = w.heap.size := ⟨_, rfl⟩
  rw [← hX] at H1 ⊢
  clear hX c0 c1 c2 c3 c4 c5 c6 c7
  generalize w.alloc (.cells #[.pointer (some ⟨R, 0, none⟩), .int .i64 k, .slice a1 l.length cp1, .map (some mM), .map (some mE), .map (some mF), .map (some mA), .slice a2 d.hd.length cp2] 85) = w1 at *
  have c2 := (HCB.out _ H1.out.toFr).1
  go_upto_region 3 with (go_at_call 63; refine (gclone_any _ l _ (HG.out.fr H1.out.toFr) HL.out).mono ?_; rintro e w2 ⟨v', rfl, ho, hf⟩
                         have H2 := Lib.hid (H1.out.radd ho hf).turn
                         obtain ⟨b1, q1, rfl⟩ := row_form ho
                         have x2 : w2.cell? ⟨X, 2, none⟩ = some (.slice a1 l.length cp1) := cellOf H2.out.boxed rfl
                         have y2 := frozenOf H2.out.boxed 2
                         clear ho hf)
  have H3 := Lib.hid (H2.out.set 2 (.slice b1 l.length q1))
  simp only [List.setIfInBounds_toArray, List.set_cons_zero, List.set_cons_succ] at H3
  clear c2 x2 y2 H1 H2
  generalize w2.setCell ⟨X, 2, none⟩ (.slice b1 l.length q1) = w3 at *
  have c3 := (HCB.out _ H3.out.toFr).2.1
  go_upto_region 4 with (go_at_call 64; refine (Mb.mapsClone_is _ (HM.out.fr H3.out.toFr)).mono ?_; rintro e w4 ⟨rfl, hm, hf⟩
                         have H4 := Lib.hid (H3.out.new (T := MbT w3.heap.size (mmV d) n1) ⟨fun k => k = w3.heap.size, ⟨hm, fun _ => Iff.rfl⟩, fun k hk => .inr (by subst hk; exact ⟨Nat.le_refl _, hm.lt⟩), .of_fr hf⟩).turn
                         have x3 : w4.cell? ⟨X, 3, none⟩ = some (.map (some mM)) := cellOf H4.out.boxed rfl
                         have y3 := frozenOf H4.out.boxed 3
                         clear hm hf)
  obtain ⟨m1, hm1⟩ : ∃ m, m = w3.heap.size := ⟨_, rfl⟩
  rw [← hm1] at H4 ⊢
  have H5 := Lib.hid (H4.out.set 3 (.map (some m1)))
  simp only [List.setIfInBounds_toArray, List.set_cons_zero, List.set_cons_succ] at H5
  clear c3 x3 y3 H3 H4 hm1
  generalize w4.setCell ⟨X, 3, none⟩ (.map (some m1)) = w5 at *
  have c4 := (HCB.out _ H5.out.toFr).2.2.1
  go_upto_region 5 with (go_at_call 65; refine (Me.mapsClone_is _ (HE.out.fr H5.out.toFr)).mono ?_; rintro e w6 ⟨rfl, hm, hf⟩
                         have H6 := Lib.hid (H5.out.new (T := MeT w5.heap.size (enV d) n2) ⟨fun k => k = w5.heap.size, ⟨hm, fun _ => Iff.rfl⟩, fun k hk => .inr (by subst hk; exact ⟨Nat.le_refl _, hm.lt⟩), .of_fr hf⟩).turn
                         have x4 : w6.cell? ⟨X, 4, none⟩ = some (.map (some mE)) := cellOf H6.out.boxed rfl
                         have y4 := frozenOf H6.out.boxed 4
                         clear hm hf)
  obtain ⟨m2, hm2⟩ : ∃ m, m = w5.heap.size := ⟨_, rfl⟩
  rw [← hm2] at H6 ⊢
  have H7 := Lib.hid (H6.out.set 4 (.map (some m2)))
  simp only [List.setIfInBounds_toArray, List.set_cons_zero, List.set_cons_succ] at H7
  clear c4 x4 y4 H5 H6 hm2
  generalize w6.setCell ⟨X, 4, none⟩ (.map (some m2)) = w7 at *
  have c5 := (HCB.out _ H7.out.toFr).2.2.2.1
  go_upto_region 6 with (go_at_call 66; refine (Ms.mapsClone_is _ (HF.out.fr H7.out.toFr)).mono ?_; rintro e w8 ⟨rfl, hm, hf⟩
                         have H8 := Lib.hid (H7.out.madd hm (Nat.le_refl _) hf).turn
                         have x5 : w8.cell? ⟨X, 5, none⟩ = some (.map (some mF)) := cellOf H8.out.boxed rfl
                         have y5 := frozenOf H8.out.boxed 5
                         clear hm hf)
  obtain ⟨m3, hm3⟩ : ∃ m, m = w7.heap.size := ⟨_, rfl⟩
  rw [← hm3] at H8 ⊢
  have H9 := Lib.hid (H8.out.set 5 (.map (some m3)))
  simp only [List.setIfInBounds_toArray, List.set_cons_zero, List.set_cons_succ] at H9
  clear c5 x5 y5 H7 H8 hm3
  generalize w8.setCell ⟨X, 5, none⟩ (.map (some m3)) = w9 at *
  have c6 := (HCB.out _ H9.out.toFr).2.2.2.2.1
  go_upto_region 7 with (go_at_call 66; refine (Ms.mapsClone_is _ (HA.out.fr H9.out.toFr)).mono ?_; rintro e w10 ⟨rfl, hm, hf⟩
                         have H10 := Lib.hid (H9.out.madd hm (Nat.le_refl _) hf).turn
                         have x6 : w10.cell? ⟨X, 6, none⟩ = some (.map (some mA)) := cellOf H10.out.boxed rfl
                         have y6 := frozenOf H10.out.boxed 6
                         clear hm hf)
  obtain ⟨m4, hm4⟩ : ∃ m, m = w9.heap.size := ⟨_, rfl⟩
  rw [← hm4] at H10 ⊢
  have H11 := Lib.hid (H10.out.set 6 (.map (some m4)))
  simp only [List.setIfInBounds_toArray, List.set_cons_zero, List.set_cons_succ] at H11
  clear c6 x6 y6 H9 H10 hm4
  generalize w10.setCell ⟨X, 6, none⟩ (.map (some m4)) = w11 at *
  have c7 := (HCB.out _ H11.out.toFr).2.2.2.2.2
  go_upto_region 8 with (go_at_call 67; refine (cclone_any _ d.hd _ (HC.out.fr H11.out.toFr) HDL.out).mono ?_; rintro e w12 ⟨v', rfl, ho, hf⟩
                         have H12 := Lib.hid (H11.out.radd ho hf).turn
                         obtain ⟨b2, q2, rfl⟩ := row_form ho
                         have x7 : w12.cell? ⟨X, 7, none⟩ = some (.slice a2 d.hd.length cp2) := cellOf H12.out.boxed rfl
                         have y7 := frozenOf H12.out.boxed 7
                         clear ho hf)
  have H13 := Lib.hid (H12.out.set 7 (.slice b2 d.hd.length q2))
  simp only [List.setIfInBounds_toArray, List.set_cons_zero, List.set_cons_succ] at H13
  clear c7 x7 y7 H11 H12
  generalize w12.setCell ⟨X, 7, none⟩ (.slice b2 d.hd.length q2) = w13 at *
  go_wp2_with fail
  go_ret
  exact ⟨X, rfl, copy_parts (p := ⟨.slice b1 l.length q1, m1, m2, m3, m4, .slice b2 d.hd.length q2, n1, n2, n3, n4⟩) H13.out⟩
end Go.Proofs.YtapdabebiinnnaaGreatDoor
namespace Go.Proofs.YtapdabebiinnnaaGreatDoor
open Go.RowKit Go.MapKept Go.Maps Go.WideMaps

/-! ### Same, of equal lists -/
set_option maxHeartbeats 400000 in
set_option maxRecDepth 100000 in
theorem sameG_at (b o c b' o' c' : Nat) (xs : List Sg) (w : World) (h1 : GAt w b o xs) (h2 : GAt w b' o' xs) (hn : xs.length ≤ 1000000) :
    Calls Tryz.prog 33 #[.slice (some ⟨b, o, none⟩) xs.length c, .slice (some ⟨b', o', none⟩) xs.length c'] w fun e w' => e = .returned (.bool true) ∧ ∃ m, w' = w.drewN m := by
  have H1 := Lib.hid h1
  have H2 := Lib.hid h2
  clear h1 h2
  go_enter Tryz.func33, Tryz.ntmps33
  go_wp2_with fail
  go_loopw [5] (fun i wr => ∃ k : Nat, k ≤ xs.length ∧ i = .int .i64 k ∧ Hid (∃ m, wr = w.drewN m)) (fun i _ => xs.length - (intOf i).toNat)
  case atStart => exact ⟨0, Nat.zero_le _, rfl, Lib.hid ⟨0, rfl⟩⟩
  case round =>
    obtain ⟨k, hk, rfl, hwr⟩ := hrel
    have hF : Fr w wr := by obtain ⟨m, rfl⟩ := hwr.out; exact Fr.drewN w m
    by_cases hlt : k < xs.length
    · obtain ⟨c0, c1, c2⟩ := (H1.out k hlt).fr hF
      obtain ⟨d0, d1, d2⟩ := (H2.out k hlt).fr hF
      generalize xs[k] = x at *
      obtain ⟨y, t, m⟩ := x
      simp only at c0 c1 c2 d0 d1 d2
      go_wp2_with fail
      go_quiet (fail)
      have hq : ∃ m, wr.drewN nq = w.drewN m := by obtain ⟨m, rfl⟩ := hwr.out; exact ⟨m + nq, World.drewN_drewN ..⟩
      have HQ := Lib.hid hq
      generalize wr.drewN nq = w2 at *
      clear c0 c1 c2 d0 d1 d2 hwr hF hq
      go_wp2_with fail
      go_roundw
      case rel => exact ⟨k + 1, by omega, by go_num, HQ⟩
      case measure => simp [intOf]; omega
    · go_wp2_with fail
      go_ret
      exact ⟨rfl, hwr.out⟩
set_option maxRecDepth 100000 in
theorem sameG_nil (a a' : Option Addr) (c c' : Nat) (w : World) :
    Calls Tryz.prog 33 #[.slice a 0 c, .slice a' 0 c'] w fun e w' => e = .returned (.bool true) ∧ ∃ m, w' = w.drewN m := by
  go_enter Tryz.func33, Tryz.ntmps33
  go_wp2_with fail
  go_loopw [5] (fun i wr => i = .int .i64 0 ∧ wr = w) (fun _ _ => 0)
  case atStart => exact ⟨rfl, rfl⟩
  case round =>
    obtain ⟨rfl, rfl⟩ := hrel
    go_wp2_with fail
    go_ret
    exact ⟨rfl, 0, rfl⟩
theorem sameG_any {u v : Value} {xs : List Sg} (w : World) (h1 : GSl w u xs) (h2 : GSl w v xs) (hn : xs.length ≤ 1000000) :
    Calls Tryz.prog 33 #[u, v] w fun e w' => e = .returned (.bool true) ∧ Fr w w' := by
  have hq : Calls Tryz.prog 33 #[u, v] w fun e w' => e = .returned (.bool true) ∧ ∃ m, w' = w.drewN m := by
    rcases h1 with ⟨rfl, a, c, rfl⟩ | ⟨b, o, c, rfl, hc⟩
    · obtain ⟨a', c', rfl⟩ := h2.len
      exact sameG_nil a a' c c' w
    · rcases h2 with ⟨rfl, a', c', rfl⟩ | ⟨b', o', c', rfl, hc'⟩
      · exact sameG_nil _ a' c c' w
      · exact sameG_at b o c b' o' c' xs w hc hc' hn
  exact hq.mono fun _ _ ⟨he, m, hm⟩ => ⟨he, hm ▸ Fr.drewN w m⟩

/-! ### What is read -/
section
variable {q : List Sd} {k : Int} {L : List Sg}
theorem rd_same (h : LOk q k L) (hq : q.Nodup) (hql : q.length ≤ 1000000) (hk : IsKey k) (hl : L.length ≤ 100000) : rdE q (byT k L) = 0 ∧ pky (byT k L) = k ∧ (fin (byT k L)).l = L := by
  obtain ⟨h1, h2, h3⟩ := by_fin (k := k) (l := L) ⟨hk.1, by have := hk.2; omega⟩ (by omega) (h.wok hql) h.key
  have h4 := rE_all h hq 0 (Nat.zero_le _)
  rw [List.take_zero, List.drop_zero] at h4
  exact ⟨by rw [rdE_yes ⟨by rw [h1]; exact hk, h3⟩, h1, h2]; exact h4, h1, by rw [h2]⟩
theorem rd_other (h : LOk q k L) (hql : q.length ≤ 1000000) (hk : IsKey k) (hl : L.length ≤ 100000) (h0 : 0 < L.length) : rdE [] (byT k L) = 18 ∧ (fin (byT k L)).l = L := by
  obtain ⟨h1, h2, h3⟩ := by_fin (k := k) (l := L) ⟨hk.1, by have := hk.2; omega⟩ (by omega) (h.wok hql) h.key
  refine ⟨?_, by rw [h2]⟩
  rw [rdE_yes ⟨by rw [h1]; exact hk, h3⟩, h1, h2]
  cases L with
  | nil => simp at h0
  | cons a L =>
    have he : aE [] k [] a = 18 := (acc_seal (k := k) (d := vd []) (s := a) (q := []) [] (by unfold holds; simp)).1
    rw [rE, if_neg (by simp), if_pos (by rw [he]; decide), he]
theorem rd_twice (h : LOk q k L) (hq : q.Nodup) (hql : q.length ≤ 1000000) (hk : IsKey k) {a : Sg} (ha : a ∈ L) : rdE q (byT k [a, a]) = 5 ∧ (fin (byT k [a, a])).l.length ≤ 100000 := by
  have hw := h.wok hql a ha
  have hy := h.key a ha
  obtain ⟨h1, h2, h3⟩ := by_fin (k := k) (l := [a, a]) ⟨hk.1, by have := hk.2; omega⟩ (by simp) (fun s hs => by
    obtain rfl : s = a := by simpa using hs
    exact hw) (fun s hs => by
    obtain rfl : s = a := by simpa using hs
    exact hy)
  refine ⟨?_, by rw [h2]; simp⟩
  rw [rdE_yes ⟨by rw [h1]; exact hk, h3⟩, h1, h2]
  have hg : Good q k [] a := ⟨h.val a ha, hy, (by obtain ⟨h1, h2⟩ := h.log a ha; exact ⟨_, h1, h2⟩), by simp⟩
  have he := (aE_zero (LOk.nil q k) hq a).2 hg
  show rE q k [] [a, a] = 5
  rw [rE, if_neg (by simp), if_neg (by rw [he]; simp), rE, if_pos (by simp)]
theorem rd_more (h : LOk q k L) (hql : q.length ≤ 1000000) (hk : IsKey k) (hl : L.length ≤ 10000) : rdE q (byT k L ++ [48, 59]) = 2 ∧ (fin (byT k L ++ [48, 59])).l.length ≤ 100000 := by
  obtain ⟨h1, h2⟩ := by_more (k := k) (l := L) ⟨hk.1, by have := hk.2; omega⟩ (by omega) (h.wok hql) h.key
  exact ⟨rdE_no (by rw [h1]; simp), by rw [h2]; omega⟩
theorem byT_len (h : LOk q k L) (hql : q.length ≤ 1000000) (hk : IsKey k) (hl : L.length ≤ 40) : (byT k L).length ≤ 900000 := by
  have h1 := num_len k hk.1 (by have := hk.2; omega)
  have h2 := num_len (L.length : Int) (by omega) (by omega)
  have h3 := flat_sg (h.wok hql)
  have h4 : L.length * 20240 ≤ 40 * 20240 := Nat.mul_le_mul_right _ hl
  unfold byT
  simp only [List.length_append]
  omega
theorem byT_two (a : Sg) : byT k [a, a] = (Wm.numE 59).f k ++ (Wm.numE 59).f 2 ++ (Wm.numE 59).f a.2.2 ++ Wm.textE.f a.2.1 ++ (Wm.numE 59).f a.2.2 ++ Wm.textE.f a.2.1 := by
  unfold byT sgE
  simp

/-! ### The two claims at last -/
def tX : Txt := [49, 59, 50, 48, 48, 48, 48, 48, 59, 49, 48, 55, 51, 55, 52, 49, 56, 50, 52, 59, 48, 58, 44]
def tY : Txt := [49, 59, 48, 59, 49, 48, 55, 51, 55, 52, 49, 56, 50, 52, 59, 48, 58, 44]
def cX : C := ⟨1, 200000, 1073741824, []⟩
def cY : C := ⟨1, 0, 1073741824, []⟩
theorem okX : okB cX = true := (okB_iff _).2 ⟨by decide, by decide, by decide, by decide, by decide, .inl (by decide)⟩
theorem okY : okB cY = true := (okB_iff _).2 ⟨by decide, by decide, by decide, by decide, by decide, .inl (by decide)⟩
theorem it1 : (Wm.numE 59).f 1 = [49, 59] := by rw [Wm.numE_f]; simp [Lib.itoa, Lib.decDigits]
theorem it0 : (Wm.numE 59).f 0 = [48, 59] := by rw [Wm.numE_f]; simp [Lib.itoa, Lib.decDigits]
theorem itN : (Wm.numE 59).f 200000 = [50, 48, 48, 48, 48, 48, 59] := by rw [Wm.numE_f]; simp [Lib.itoa, Lib.decDigits]
theorem itT : (Wm.numE 59).f 1073741824 = [49, 48, 55, 51, 55, 52, 49, 56, 50, 52, 59] := by rw [Wm.numE_f]; simp [Lib.itoa, Lib.decDigits]
theorem itE : Wm.textE.f [] = [48, 58, 44] := by rw [Wm.textE_f]; simp [Lib.itoa, Lib.decDigits]
theorem rdX : readC tX = some cX := readC_some.2 ⟨okX, by unfold textC cX; simp only; rw [it1, itN, itT, itE]; rfl⟩
theorem rdY : readC tY = some cY := readC_some.2 ⟨okY, by unfold textC cY; simp only; rw [it1, it0, itT, itE]; rfl⟩
theorem conXY : contra cX cY = true := by rw [contra_11 okX okY rfl rfl]; decide
theorem last_ne (h : LOk q k L) (hq : q.Nodup) (hql : q.length ≤ 1000000) (hk : IsKey k) (hl : L.length ≤ 100000) {x y : Sg} (hx : x.2.1 = tX) (hy : y.2.1 = tY) (h1 : aE q k L x = 0) (h2 : aE q k L y = 0) :
    byT k (acl q k L x) ≠ byT k (acl q k L y) := by
  have gx := (aE_zero h hq x).1 h1
  have gy := (aE_zero h hq y).1 h2
  have ex : clm x.2.1 = cX := by rw [hx]; exact readC_clm rdX
  have ey : clm y.2.1 = cY := by rw [hy]; exact readC_clm rdY
  have nx : x ∉ L := fun hm => by
    have := gy.2.2.2 x hm
    rw [ex, ey, conXY] at this
    exact absurd this (by simp)
  have ny : y ∉ L := fun hm => by
    have := gx.2.2.2 y hm
    rw [ex, ey, contra_comm, conXY] at this
    exact absurd this (by simp)
  have ox := gx.add h nx
  have oy := gy.add h ny
  rw [acl_new h hq gx nx, acl_new h hq gy ny]
  intro he
  have := by_inj (k := k) ⟨hk.1, by have := hk.2; omega⟩ (by simp; omega) (by simp; omega) (ox.wok hql) (oy.wok hql) ox.key oy.key he
  have h3 := List.append_cancel_left this
  injection h3 with h3
  rw [h3] at hx
  rw [hx] at hy
  exact absurd hy (by decide)
end
end Go.Proofs.YtapdabebiinnnaaGreatDoor
namespace Go.Proofs.YtapdabebiinnnaaGreatDoor
open Go.RowKit Go.MapKept Go.Maps Go.WideMaps Go.BigFrame

def BadT (l : List Sy) (nm od : Txt) : Prop := ¬ FewY l ∨ 300 < nm.length ∨ 2000 < od.length
set_option maxHeartbeats 1000000 in
set_option maxRecDepth 100000 in
theorem tells_not (v : Value) (l : List Sy) (key i : Int) (nm od : Txt) (w : World) (h : SySl w v l) (ha : SArg l) (hn : nm.length ≤ 9223372036854775807) (ho : od.length ≤ 9223372036854775807) (hb : BadT l nm od) :
    Calls Tryz.prog 3 #[v, .int .i64 key, .int .i64 i, .string (S nm), .string (S od)] w fun e w' => e = .returned (.bool true) ∧ Fr w w' := by
  have H := Lib.hid h
  have HA := Lib.hid ha
  clear h ha
  by_cases hf : FewY l
  · have HF := Lib.hid (show decide (FewY l) = true from decide_eq_true hf)
    have hb' : 300 < nm.length ∨ 2000 < od.length := hb.resolve_left (fun h => h hf)
    clear hb hf
    by_cases h1 : 300 < nm.length
    · go_enter Tryz.func3, Tryz.ntmps3
      go_wp2_with (first
        | (go_at_call 6; refine (few_any _ (H.out.fr hf1) HA.out).mono ?_; rw [HF.out]; rintro e w3 ⟨rfl, rfl⟩)
        | (go_at_call 5; refine (small_any _).mono ?_; rintro e w1 ⟨rfl, hf1⟩))
      go_ret
      exact ⟨rfl, hf1⟩
    · have h2 : 2000 < od.length := hb'.resolve_left h1
      clear hb'
      go_enter Tryz.func3, Tryz.ntmps3
      go_wp2_with (first
        | (go_at_call 6; refine (few_any _ (H.out.fr hf1) HA.out).mono ?_; rw [HF.out]; rintro e w3 ⟨rfl, rfl⟩)
        | (go_at_call 5; refine (small_any _).mono ?_; rintro e w1 ⟨rfl, hf1⟩))
      go_ret
      exact ⟨rfl, hf1⟩
  · have HF := Lib.hid (show decide (FewY l) = false from decide_eq_false hf)
    clear hb hf
    go_enter Tryz.func3, Tryz.ntmps3
    go_wp2_with (first
      | (go_at_call 6; refine (few_any _ (H.out.fr hf1) HA.out).mono ?_; rw [HF.out]; rintro e w3 ⟨rfl, rfl⟩)
      | (go_at_call 5; refine (small_any _).mono ?_; rintro e w1 ⟨rfl, hf1⟩))
    go_ret
    exact ⟨rfl, hf1⟩
theorem txtV_eq (o : Option Txt) : txtV o = .tuple #[.string (S (o.getD [])), .bool o.isSome] := by
  cases o <;> rfl
theorem absV_eq (o : Option Int) : absV o = .tuple #[.int .i64 (o.getD 0), .bool o.isSome] := by
  cases o <;> rfl
section
variable {W w : World} {A B C D E F G : Thing}
theorem Has.two (h : Has W w (A.sep (B.sep (C.sep (D.sep E))))) : Has W w (C.sep (D.sep (A.sep (B.sep E)))) :=
  h.pull3.map fun _ h => sep_under h fun _ h => sep_turn (sep_under h fun _ h => sep_turn h)
theorem Has.drop6 (h : Has W w (A.sep (B.sep (C.sep (D.sep (F.sep (G.sep E))))))) : Has W w (A.sep (B.sep (C.sep (D.sep (F.sep E))))) := (h.map fun _ h => sp6 h).right
end
theorem pst_few (s : Txt) (n : Nat) : (pst s n).l.length ≤ n := by
  induction n with
  | zero => exact Nat.le_refl _
  | succ n ih =>
    show (pstep _ (pst s n)).l.length ≤ _
    unfold pstep
    split
    · omega
    · simp; omega
theorem rdE_key {q : List Sd} {s : Txt} (h : rdE q s = 0) : IsKey (pky s) := Classical.byContradiction fun hk => by
  rw [rdE_no (fun h => hk h.1)] at h
  exact absurd h (by decide)
set_option maxHeartbeats 8000000 in
set_option maxRecDepth 100000 in
theorem tells_yes (v : Value) (l : List Sy) (key i : Int) (nm od : Txt) (w : World) (h : SySl w v l) (ha : SArg l) (hi : Wm.inInt i) (hn : nm.length ≤ 300) (ho : od.length ≤ 2000) (hf : FewY l) (ht : Tab w) :
    Calls Tryz.prog 3 #[v, .int .i64 key, .int .i64 i, .string (S nm), .string (S od)] w fun e w' => e = .returned (.bool true) ∧ Fr w w' := by
  have H := Lib.hid h
  have HA := Lib.hid ha
  have HFW := Lib.hid hf
  have HF := Lib.hid (show decide (FewY l) = true from decide_eq_true hf)
  have HT := Lib.hid ht
  have HI := Lib.hid hi
  have HNM := Lib.hid hn
  have HOD := Lib.hid ho
  have hl20 := hf.1
  have hss : (sl l).length ≤ 20 := by rw [sl_len]; exact hl20
  have HLEN := Lib.hid (sl_len l)
  have HGO := Lib.hid (fun s hs => sl_gok hf (s := s) hs)
  have HQN := Lib.hid (qs_nd l)
  have HQL := Lib.hid (show (qs l).length ≤ 900000 from by have := qs_len l; have := hf.1; omega)
  have HLV := Lib.hid (fun n h => lv_ok key (qs_nd l) (sl l) n h)
  have HQK : Hid (qk l 0 = [] ∧ qk l l.length = qs l) := Lib.hid ⟨rfl, qk_all l⟩
  clear h ha hf ht hi
  obtain ⟨al, cl, rfl⟩ := H.out.len
  go_enter Tryz.func3, Tryz.ntmps3
  go_upto_region 9 with (first
    | (go_at_call 9; refine (signed_any _ l H3.out (H.out) HA.out HFW.out).mono ?_; rintro e w5 ⟨a4, c4, rfl, h5⟩; have H5 := Lib.hid h5.pull3; clear h5)
    | (go_at_call 8; refine h2.rring.mono ?_; rintro e w3 ⟨Q, rfl, h3⟩; have H3 := Lib.hid h3.turn; clear h3)
    | (go_at_call 7; refine (((Has.here w).fr hf1).ring).mono ?_; rintro e w2 ⟨R, rfl, h2⟩)
    | (go_at_call 6; refine (few_any _ (H.out.fr hf1) HA.out).mono ?_; rw [HF.out]; rintro e w4 ⟨rfl, rfl⟩)
    | (go_at_call 5; refine (small_any _).mono ?_; rintro e w1 ⟨rfl, hf1⟩))
  clear h2 hf1 HF H3
  generalize sl l = ss at *
  have H6 : Hid (Has w w5 ((RefT Q (qk l 0)).sep ((RowT 32 3 (.slice a4 ss.length c4) ss.length (sgC ss)).sep ((RingT R (qs l)).sep .emp)))) := Lib.hid (by rw [HQK.out.1]; exact H5.out)
  clear H5
  go_wp2_with fail
  go_loopw [15] (fun v wr => ∃ k : Nat, k ≤ l.length ∧ v = .int .i64 k ∧ Hid (Has w wr ((RefT Q (qk l k)).sep ((RowT 32 3 (.slice a4 ss.length c4) ss.length (sgC ss)).sep ((RingT R (qs l)).sep .emp))))) (fun v _ => l.length - (intOf v).toNat)
  case atStart => exact ⟨0, Nat.zero_le _, by go_num, H6⟩
  case round =>
    obtain ⟨k, hk, rfl, HR⟩ := hrel
    clear H6
    by_cases hlt : k < l.length
    · obtain ⟨b, o, c', hv, hc⟩ := H.out.get (by omega)
      obtain ⟨rfl, rfl⟩ : al = some ⟨b, o, none⟩ ∧ cl = c' := by simpa using hv
      have HC := Lib.hid (hc k hlt)
      have HX := Lib.hid (HA.out.2 _ (List.getElem_mem hlt))
      have HQS := Lib.hid (qk_succ hlt)
      have HQKL := Lib.hid (show (qk l k).length ≤ 1000000 by have := qk_len l k; omega)
      clear hc hv
      unfold sdOf at HQS
      generalize l[k] = x at *
      have HWO := Lib.hid (fun w' => words_any x w' HX.out)
      unfold syV at HWO
      generalize wo x = t at *
      obtain ⟨y, ⟨ck, cn, ct, cs⟩, raw, odd⟩ := x
      simp only at HQS HWO
      have HK : Hid (∀ w', Fr w w' → w'.cell? ⟨b, o + k * 7, none⟩ = some (.int .i64 y) ∧ w'.cell? ⟨b, o + k * 7 + 1, none⟩ = some (.int .i64 ck) ∧ w'.cell? ⟨b, o + k * 7 + 2, none⟩ = some (.int .i64 cn) ∧ w'.cell? ⟨b, o + k * 7 + 3, none⟩ = some (.int .i64 ct) ∧ w'.cell? ⟨b, o + k * 7 + 4, none⟩ = some (.string (S cs)) ∧ w'.cell? ⟨b, o + k * 7 + 5, none⟩ = some (.string (S raw)) ∧ w'.cell? ⟨b, o + k * 7 + 6, none⟩ = some (.int .i64 odd)) := Lib.hid fun w' hf => ⟨hf.cell HC.out.c0, hf.cell HC.out.c1, hf.cell HC.out.c2, hf.cell HC.out.c3, hf.cell HC.out.c4, hf.cell HC.out.c5, hf.cell HC.out.c6⟩
      have HKD := Lib.hid (HK.out _ (HR.out.toFr.trans (Fr.drew wr)))
      have HR0 := Lib.hid (HR.out.fr (Fr.drew wr))
      clear HC HR
      go_upto_region 12 with fail
      go_region_held3 (fun w' => w'.cell? ⟨b, o + k * 7, none⟩ = some (.int .i64 y) ∧ w'.cell? ⟨b, o + k * 7 + 1, none⟩ = some (.int .i64 ck) ∧ w'.cell? ⟨b, o + k * 7 + 2, none⟩ = some (.int .i64 cn) ∧ w'.cell? ⟨b, o + k * 7 + 3, none⟩ = some (.int .i64 ct) ∧ w'.cell? ⟨b, o + k * 7 + 4, none⟩ = some (.string (S cs)) ∧ w'.cell? ⟨b, o + k * 7 + 5, none⟩ = some (.string (S raw)) ∧ w'.cell? ⟨b, o + k * 7 + 6, none⟩ = some (.int .i64 odd))
        (first | exact HKD.out | exact HK2.out | exact HK1.out)
        (first
          | (go_at_call 10; refine (HR1.out.rsign y t HQKL.out).mono ?_; rw [← HQS.out]; unfold sgV; rintro e w2 ⟨rfl, h2⟩; have HR2 := Lib.hid h2; have HK2 := Lib.hid (HK.out _ HR2.out.toFr); clear h2)
          | (go_at_call 11; refine (HWO.out _).mono ?_; rintro e w1 ⟨rfl, hf1⟩; have HR1 := Lib.hid (HR0.out.fr hf1); have HK1 := Lib.hid (HK.out _ HR1.out.toFr); clear hf1))
      all_goals
        go_wp2_with fail
        go_roundw
        case rel => exact ⟨k + 1, by omega, by go_num, HR2⟩
        case measure => simp [intOf]; omega
    · obtain rfl : k = l.length := by omega
      rw [HQK.out.2] at HR
      generalize qs l = q at *
      clear HQK hk hlt
      by_cases hk : IsKey key
      · have HK := Lib.hid hk
        clear hk
        go_upto_region 17 with (first
          | (go_at_call 13; refine (rvnew_yes H7.out Q key HK.out).mono ?_; rintro e w8 ⟨X, rfl, h8⟩; have H8 := Lib.hid ((h8.map fun _ h => sp5 h).pull3); clear h8)
          | (go_at_call 12; refine (vnew_yes HR.out R key HK.out).mono ?_; rintro e w7 ⟨V, rfl, h7⟩; have H7 := Lib.hid h7; clear h7))
        clear HR H7
        have H9 : Hid (Has w w8 ((ViewT V R key (lv q key ss 0) (vd (lv q key ss 0))).sep ((RingT R q).sep ((RViewT X Q key (lv q key ss 0)).sep ((RefT Q q).sep ((RowT 32 3 (.slice a4 ss.length c4) ss.length (sgC ss)).sep .emp)))))) := Lib.hid H8.out
        clear H8
        go_wp2_with fail
        go_loopw [18] (fun v wr => ∃ k : Nat, k ≤ ss.length ∧ v = .int .i64 k ∧ Hid (Has w wr ((ViewT V R key (lv q key ss k) (vd (lv q key ss k))).sep ((RingT R q).sep ((RViewT X Q key (lv q key ss k)).sep ((RefT Q q).sep ((RowT 32 3 (.slice a4 ss.length c4) ss.length (sgC ss)).sep .emp))))))) (fun v _ => ss.length - (intOf v).toNat)
        case atStart => exact ⟨0, Nat.zero_le _, by go_num, H9⟩
        case round =>
          obtain ⟨k, hk, rfl, HR⟩ := hrel
          clear H9
          by_cases hlt : k < ss.length
          · obtain ⟨g, cp, hv, _, hcell⟩ := sg_at HR.out.right.right.right.right.row rfl (by omega)
            obtain ⟨rfl, rfl⟩ : a4 = some ⟨g, 0, none⟩ ∧ c4 = cp := by simpa using hv
            have hLN := (HLV.out k hk)
            have HLO := Lib.hid hLN.1
            have HLL := Lib.hid (show (lv q key ss k).length ≤ 100000 from by have := hLN.2; omega)
            have hLN1 := (HLV.out (k + 1) (by omega))
            have HLO1 := Lib.hid hLN1.1
            have HLL1 := Lib.hid (show (lv q key ss (k + 1)).length ≤ 100000 from by have := hLN1.2; omega)
            have HSU := Lib.hid (lv_succ q key hlt)
            have HG := Lib.hid (HGO.out _ (List.getElem_mem hlt))
            have hck := hcell k hlt
            have hkl : k < l.length := by have := HLEN.out; omega
            have HWX := Lib.hid (HA.out.2 _ (List.getElem_mem hkl))
            obtain ⟨by', oy, cy', hvy, hcy⟩ := H.out.get (by omega)
            have HCY := Lib.hid (hcy k hkl)
            have HWL := Lib.hid (wo_len (HFW.out.2 _ (List.getElem_mem hkl)).1)
            obtain ⟨yy, hyy⟩ : ∃ yy, yy = l[k] := ⟨_, rfl⟩
            rw [← hyy] at HWX HCY HWL
            obtain ⟨s, hs⟩ : ∃ s, s = ss[k] := ⟨_, rfl⟩
            obtain ⟨L, hL⟩ : ∃ L, L = lv q key ss k := ⟨_, rfl⟩
            obtain ⟨L1, hL1⟩ : ∃ L1, L1 = lv q key ss (k + 1) := ⟨_, rfl⟩
            rw [← hs] at hck HG HSU
            rw [← hL] at HR HLO HLL HSU
            rw [← hL1] at HLO1 HLL1 HSU
            have HSC := Lib.hid (show ∀ (w' : World) (base : Nat), w'.ownsRow base 32 3 (.slice (some ⟨g, 0, none⟩) ss.length c4) ss.length (sgC ss) → w'.cell? ⟨g, k * 3, none⟩ = some (.int .i64 s.1) ∧ w'.cell? ⟨g, k * 3 + 1, none⟩ = some (.string (S s.2.1)) ∧ w'.cell? ⟨g, k * 3 + 2, none⟩ = some (.int .i64 s.2.2) from fun w' base h => by
              have h1 := sg_cell h rfl k hlt
              rw [← hs] at h1
              exact ⟨h1.c0, h1.c1, h1.c2⟩)
            have HNEXT := Lib.hid (show ∀ w', Has w w' ((ViewT V R key L1 (vd L1)).sep ((RingT R q).sep ((RViewT X Q key L1).sep ((RefT Q q).sep ((RowT 32 3 (.slice (some ⟨g, 0, none⟩) ss.length c4) ss.length (sgC ss)).sep .emp))))) → Has w w' ((ViewT V R key (lv q key ss (k + 1)) (vd (lv q key ss (k + 1)))).sep ((RingT R q).sep ((RViewT X Q key (lv q key ss (k + 1))).sep ((RefT Q q).sep ((RowT 32 3 (.slice (some ⟨g, 0, none⟩) ss.length c4) ss.length (sgC ss)).sep .emp))))) from fun w' h => by rw [← hL1]; exact h)
            clear hL hL1 hLN hLN1 hcell hv hs hck hyy hcy HLV HGO
            obtain rfl : al = some ⟨by', oy, none⟩ := by injection hvy
            have HCL := Lib.hid (fun w' (U : Thing) (h : Has w w' ((ViewT V R key L (vd L)).sep U)) => vclash h HLO.out HQN.out HLL.out s HG.out.2.1)
            have HCR := Lib.hid (fun w' (U : Thing) (h : Has w w' ((RViewT X Q key L).sep U)) => rvclash h HLO.out HLL.out s HG.out.2.1)
            have HAC := Lib.hid (fun w' (U : Thing) (h : Has w w' ((ViewT V R key L (vd L)).sep ((RingT R q).sep U))) => vacc h HLO.out HQN.out (by have := HQL.out; omega) HLL.out s HG.out)
            have HAR := Lib.hid (fun w' (U : Thing) (h : Has w w' ((RViewT X Q key L).sep ((RefT Q q).sep U))) => rvacc h HLO.out HQN.out (by have := HQL.out; omega) HLL.out s HG.out)
            rw [← HSU.out] at HAC HAR
            simp only [clV_eq] at HCL HCR
            unfold sgV at HCL HCR HAC HAR
            obtain ⟨x, hx⟩ : ∃ x, x = (clR L s).getD (0, [], 0) := ⟨_, rfl⟩
            obtain ⟨xb, hxb⟩ : ∃ xb, xb = (clR L s).isSome := ⟨_, rfl⟩
            obtain ⟨ae, hae⟩ : ∃ ae, ae = aE q key L s := ⟨_, rfl⟩
            rw [← hx, ← hxb] at HCL HCR
            rw [← hae] at HAC HAR
            clear hx hxb hae
            obtain ⟨sk, st, sm⟩ := s
            obtain ⟨x0, x1, x2⟩ := x
            simp only at HCL HCR HAC HAR HSC
            obtain ⟨t0, t1, t2⟩ := HSC.out wr _ HR.out.right.right.right.right.row
            go_upto_region 21 with (go_at_call 14; refine (HCL.out _ _ HR.out).mono ?_; rintro e w9 ⟨rfl, hf9⟩)
            have H10 := Lib.hid (((HR.out.fr hf9).box 32 #[.int .i64 x0, .string (S x1), .int .i64 x2]).map fun _ h => ps6 h)
            obtain ⟨XA, hXA⟩ : ∃ XA, XA = w9.heap.size := ⟨_, rfl⟩
            rw [← hXA] at H10 ⊢
            clear hXA hf9 HR t0 t1 t2 HCL
            generalize w9.alloc (.cells #[.int .i64 x0, .string (S x1), .int .i64 x2] 32) = w10 at *
            obtain ⟨t0, t1, t2⟩ := HSC.out w10 _ H10.out.right.right.right.right.row
            go_upto_region 22 with (go_at_call 15; refine (HCR.out _ _ H10.out.pull3).mono ?_; rintro e w11 ⟨rfl, hf11⟩)
            have H12 := Lib.hid (((H10.out.fr hf11).box 32 #[.int .i64 x0, .string (S x1), .int .i64 x2]).map fun _ h => ps6 h)
            obtain ⟨XB, hXB⟩ : ∃ XB, XB = w11.heap.size := ⟨_, rfl⟩
            rw [← hXB] at H12 ⊢
            clear hXB hf11 H10 t0 t1 t2 HCR
            generalize w11.alloc (.cells #[.int .i64 x0, .string (S x1), .int .i64 x2] 32) = w12 at *
            have HCC := Lib.hid (show ∀ (w' : World) (A B C D : Thing), Has w w' (A.sep (B.sep (C.sep (D.sep ((RowT 32 3 (.slice (some ⟨g, 0, none⟩) ss.length c4) ss.length (sgC ss)).sep ((BoxT 32 XB #[.int .i64 x0, .string (S x1), .int .i64 x2]).sep ((BoxT 32 XA #[.int .i64 x0, .string (S x1), .int .i64 x2]).sep .emp))))))) →
              (w'.cell? ⟨g, k * 3, none⟩ = some (.int .i64 sk) ∧ w'.cell? ⟨g, k * 3 + 1, none⟩ = some (.string (S st)) ∧ w'.cell? ⟨g, k * 3 + 2, none⟩ = some (.int .i64 sm) ∧ w'.cell? ⟨XA, 0, none⟩ = some (.int .i64 x0) ∧ w'.cell? ⟨XA, 1, none⟩ = some (.string (S x1)) ∧ w'.cell? ⟨XA, 2, none⟩ = some (.int .i64 x2) ∧ w'.cell? ⟨XB, 0, none⟩ = some (.int .i64 x0) ∧ w'.cell? ⟨XB, 1, none⟩ = some (.string (S x1)) ∧ w'.cell? ⟨XB, 2, none⟩ = some (.int .i64 x2)) from fun w' A B C D h => by
              obtain ⟨g0, g1, g2⟩ := HSC.out w' _ h.right.right.right.right.row
              have b1 := h.right.right.right.right.right.boxed
              have b2 := h.right.right.right.right.right.right.boxed
              exact ⟨g0, g1, g2, cellOf b2 rfl, cellOf b2 rfl, cellOf b2 rfl, cellOf b1 rfl, cellOf b1 rfl, cellOf b1 rfl⟩)
            have HD := Lib.hid (HCC.out _ _ _ _ _ (H12.out.fr (Fr.drew w12)))
            obtain ⟨c0, c1, c2, c3, c4', c5, c6, c7, c8⟩ := HCC.out _ _ _ _ _ H12.out
            go_cut [154] (fun b wx => b = .bool false ∧ Hid (Has w wx ((ViewT V R key L1 (vd L1)).sep ((RingT R q).sep ((RViewT X Q key L1).sep ((RefT Q q).sep ((RowT 32 3 (.slice (some ⟨g, 0, none⟩) ss.length c4) ss.length (sgC ss)).sep .emp)))))))
            case first =>
              go_region_held3 (fun w' => w'.cell? ⟨g, k * 3, none⟩ = some (.int .i64 sk) ∧ w'.cell? ⟨g, k * 3 + 1, none⟩ = some (.string (S st)) ∧ w'.cell? ⟨g, k * 3 + 2, none⟩ = some (.int .i64 sm) ∧ w'.cell? ⟨XA, 0, none⟩ = some (.int .i64 x0) ∧ w'.cell? ⟨XA, 1, none⟩ = some (.string (S x1)) ∧ w'.cell? ⟨XA, 2, none⟩ = some (.int .i64 x2) ∧ w'.cell? ⟨XB, 0, none⟩ = some (.int .i64 x0) ∧ w'.cell? ⟨XB, 1, none⟩ = some (.string (S x1)) ∧ w'.cell? ⟨XB, 2, none⟩ = some (.int .i64 x2))
                (first | exact HD.out | exact HD2.out | exact HD1.out)
                (first
                  | (go_at_call 17; refine (HAR.out _ _ H13.out.two).mono ?_; rintro e w14 ⟨rfl, h14⟩; have H14 := Lib.hid h14.two; have HD2 := Lib.hid (HCC.out _ _ _ _ _ H14.out); clear h14)
                  | (go_at_call 16; refine (HAC.out _ _ (H12.out.fr (Fr.drew w12))).mono ?_; rintro e w13 ⟨rfl, h13⟩; have H13 := Lib.hid h13; have HD1 := Lib.hid (HCC.out _ _ _ _ _ H13.out); clear h13))
              all_goals (go_wp2_with fail; go_meet; exact ⟨rfl, Lib.hid H14.out.drop6.drop6⟩)
            case rest =>
              rename World => w14
              obtain ⟨rfl, H14⟩ := hcut
              clear H12 HD HCC c0 c1 c2 c3 c4' c5 c6 c7 c8 HAC HAR HSC
              have HTV := Lib.hid (vtext H14.out k ⟨by omega, by omega⟩)
              have HTR := Lib.hid (rvtext H14.out.pull3 HLO1.out HQN.out HLL1.out k)
              simp only [txtV_eq] at HTV HTR
              have HTB := Lib.hid (fun w' (hf : Fr w14 w') => vabsent (H14.out.fr hf) (wo yy) (by have := HWL.out; unfold maxLen; omega))
              have HTS := Lib.hid (fun w' (hf : Fr w14 w') => rvabsent (H14.out.pull3.fr hf) HLO1.out HQN.out HLL1.out (wo yy))
              simp only [absV_eq] at HTB HTS
              have HWO := Lib.hid (fun w' => words_any yy w' HWX.out)
              unfold syV at HWO
              have HKY : Hid (∀ w', Fr w w' → SyIn w' by' (oy + k * 7) yy) := Lib.hid fun w' hf => HCY.out.fr hf
              generalize ((vd L1).en (k : Int)).getD [] = e1 at *
              generalize ((vd L1).en (k : Int)).isSome = e2 at *
              generalize wo yy = t at *
              generalize ((vd L1).ab t).getD 0 = e3 at *
              generalize ((vd L1).ab t).isSome = e4 at *
              go_upto_region 25 with (go_at_call 18; refine HTV.out.mono ?_; rintro e w15 ⟨rfl, rfl⟩)
              go_upto_region 26 with (go_at_call 19; refine HTR.out.mono ?_; rintro e w15 ⟨rfl, hf15⟩)
              have HF15 := Lib.hid hf15
              obtain ⟨k0, k1, k2, k3, k4, k5, k6⟩ := HKY.out w15 (H14.out.toFr.trans hf15)
              clear hf15 HTV HTR
              go_upto_region 27 with (first
                | (go_at_call 20; refine (HTB.out _ (HF15.out.trans hf16)).mono ?_; rintro e w17 ⟨rfl, rfl⟩)
                | (go_at_call 11; refine (HWO.out _).mono ?_; rintro e w16 ⟨rfl, hf16⟩))
              have HF17 := Lib.hid (HF15.out.trans hf16)
              clear k0 k1 k2 k3 k4 k5 k6
              obtain ⟨k0, k1, k2, k3, k4, k5, k6⟩ := HKY.out _ (H14.out.toFr.trans HF17.out)
              clear HF15 hf16 HTB
              go_wp2_with (first
                | (go_at_call 21; refine (HTS.out _ (HF17.out.trans hf18)).mono ?_; rintro e w19 ⟨rfl, hf19⟩; have H19 := Lib.hid (H14.out.fr (HF17.out.trans (hf18.trans hf19))); clear hf19)
                | (go_at_call 11; refine (HWO.out _).mono ?_; rintro e w18 ⟨rfl, hf18⟩))
              go_roundw
              case rel => exact ⟨k + 1, by omega, by go_num, Lib.hid (HNEXT.out _ H19.out)⟩
              case measure => simp [intOf]; omega
          · obtain rfl : k = ss.length := by omega
            have hLN := HLV.out ss.length (Nat.le_refl _)
            have HLO := Lib.hid hLN.1
            have hll : (lv q key ss ss.length).length ≤ 20 := by have := hLN.2; omega
            obtain ⟨L, hL⟩ : ∃ L, L = lv q key ss ss.length := ⟨_, rfl⟩
            rw [← hL] at HR HLO hll
            have HLL := Lib.hid hll
            have HQ1 := Lib.hid (show q.length ≤ 1000000 by have := HQL.out; omega)
            have H0 : Hid (Has w wr ((ViewT V R key L (vd L)).sep ((RingT R q).sep ((RViewT X Q key L).sep ((RefT Q q).sep .emp))))) := Lib.hid (HR.out.map fun _ h => sp5 h).right
            clear hL hLN HR HGO HLV hll HLEN hl20 hss hk HA HFW
            have HTV := Lib.hid (fun w' (hf : Fr wr w') => vtext (H0.out.fr hf) i HI.out)
            have HTR := Lib.hid (fun w' (hf : Fr wr w') => rvtext (H0.out.pull3.fr hf) HLO.out HQN.out (by have := HLL.out; omega) i)
            simp only [txtV_eq] at HTV HTR
            have HTB := Lib.hid (fun w' (hf : Fr wr w') => vabsent (H0.out.fr hf) nm (by have := HNM.out; unfold maxLen; omega))
            have HTS := Lib.hid (fun w' (hf : Fr wr w') => rvabsent (H0.out.pull3.fr hf) HLO.out HQN.out (by have := HLL.out; omega) nm)
            simp only [absV_eq] at HTB HTS
            have HSV := Lib.hid (fun w' (hf : Fr wr w') => vsize (H0.out.fr hf) (by have := (HLO.out.hdok HQN.out (by have := HLL.out; omega)).len; omega))
            have HSR := Lib.hid (fun w' (hf : Fr wr w') => rvsize (H0.out.pull3.fr hf) HLO.out HQN.out (by have := HLL.out; omega))
            have HAV := Lib.hid (fun w' (hf : Fr wr w') => vage (H0.out.fr hf) (by have := (HLO.out.hdok HQN.out (by have := HLL.out; omega)).len; omega) i HI.out)
            have HAR := Lib.hid (fun w' (hf : Fr wr w') => rvage (H0.out.pull3.fr hf) HLO.out HQN.out (by have := HLL.out; omega) i HI.out)
            have HKV := Lib.hid (fun w' (hf : Fr wr w') => vknown (H0.out.fr hf) i HI.out)
            have HKR := Lib.hid (fun w' (hf : Fr wr w') => rvknown (H0.out.pull3.fr hf) HLO.out HQN.out (by have := HLL.out; omega) i HI.out)
            have HBV := Lib.hid (fun w' (hf : Fr wr w') => vbytes (H0.out.fr hf) HK.out (by have := HLL.out; omega) (HLO.out.wok HQ1.out) (HT.out.fr (H0.out.toFr.trans hf)))
            have HBR := Lib.hid (fun w' (hf : Fr wr w') => rvbytes (H0.out.pull3.fr hf) HK.out (by have := HLL.out; omega) (HLO.out.wok HQ1.out))
            have HYV := Lib.hid (fun w' (hf : Fr wr w') => vkey (H0.out.fr hf))
            generalize ((vd L).en i).getD [] = e1 at *
            generalize ((vd L).en i).isSome = e2 at *
            generalize ((vd L).ab nm).getD 0 = e3 at *
            generalize ((vd L).ab nm).isSome = e4 at *
            generalize szN (vd L) = e5 at *
            generalize szT (vd L) = e6 at *
            generalize agO (vd L) i = e7 at *
            generalize knB (vd L) i = e8 at *
            generalize byT key L = e9 at *
            go_upto_region 31 with (go_at_call 18; refine (HTV.out _ (Fr.refl _)).mono ?_; rintro e w20 ⟨rfl, rfl⟩)
            go_upto_region 32 with (go_at_call 19; refine (HTR.out _ (Fr.refl _)).mono ?_; rintro e w21 ⟨rfl, hf21⟩)
            go_upto_region 33 with (go_at_call 20; refine (HTB.out _ hf21).mono ?_; rintro e w22 ⟨rfl, rfl⟩)
            go_upto_region 34 with (go_at_call 21; refine (HTS.out _ hf21).mono ?_; rintro e w23 ⟨rfl, hf23⟩)
            have HF23 := Lib.hid (hf21.trans hf23)
            clear hf21 hf23 HTV HTR HTB HTS
            go_upto_region 35 with (go_at_call 22; refine (HSV.out _ HF23.out).mono ?_; rintro e w24 ⟨rfl, hf24⟩)
            have HF24 := Lib.hid (HF23.out.trans hf24)
            clear hf24 HF23
            go_upto_region 36 with (go_at_call 23; refine (HSR.out _ HF24.out).mono ?_; rintro e w25 ⟨rfl, hf25⟩)
            have HF25 := Lib.hid (HF24.out.trans hf25)
            clear hf25 HF24 HSV HSR
            go_upto_region 38 with (first
              | (go_at_call 30; refine (HYV.out _ HF31.out).mono ?_; rintro e w32 ⟨rfl, rfl⟩)
              | (go_at_call 29; refine (HBR.out _ HF30.out).mono ?_; rintro e w31 ⟨rfl, hf⟩; have HF31 := Lib.hid (HF30.out.trans hf); clear hf)
              | (go_at_call 28; refine (HBV.out _ HF29.out).mono ?_; rintro e w30 ⟨rfl, hf⟩; have HF30 := Lib.hid (HF29.out.trans hf); clear hf)
              | (go_at_call 27; refine (HKR.out _ HF27.out).mono ?_; rintro e w29 ⟨rfl, hf⟩; have HF29 := Lib.hid (HF27.out.trans hf); clear hf)
              | (go_at_call 26; refine (HKV.out _ HF27.out).mono ?_; rintro e w28 ⟨rfl, rfl⟩)
              | (go_at_call 25; refine (HAR.out _ HF26.out).mono ?_; rintro e w27 ⟨rfl, hf⟩; have HF27 := Lib.hid (HF26.out.trans hf); clear hf)
              | (go_at_call 24; refine (HAV.out _ HF25.out).mono ?_; rintro e w26 ⟨rfl, hf⟩; have HF26 := Lib.hid (HF25.out.trans hf); clear hf))
            have H1 := Lib.hid (H0.out.fr HF31.out)
            clear HF25 HF26 HF27 HF29 HF30 HF31 HAV HAR HKV HKR HBV HBR HYV H0
            have hfl : (fin od).l.length ≤ 2000 := Nat.le_trans (pst_few od od.length) HOD.out
            have HFL := Lib.hid hfl
            have HRV := Lib.hid (vread H1.out.turn HQN.out HQ1.out od (by have := HOD.out; omega) (by omega))
            have HKE := Lib.hid (fun h => rdE_key (q := q) (s := od) h)
            have HRR := Lib.hid (fun w' (V' : Thing) (h : Has w w' ((RefT Q q).sep V')) => rvreadall h HQN.out HQ1.out od (by have := HOD.out; omega) (by omega))
            generalize rdE q od = E at *
            generalize pky od = k2 at *
            generalize (fin od).l = L2 at *
            clear hfl
            go_upto_region 39 with (go_at_call 31; refine HRV.out.mono ?_; rintro e w33 hr; rcases hr with ⟨hE, rfl, h33⟩ | ⟨rfl, B1, rfl, hO1, h33⟩)
            · have H33 := Lib.hid h33.pull4
              have HE := Lib.hid hE
              clear h33 hE H1 HRV HKE
              go_upto_region 40 with (go_at_call 32; refine (HRR.out _ _ H33.out).mono ?_; rintro e w34 hr; rcases hr with ⟨_, rfl, h34⟩ | ⟨h0, _⟩; rotate_left; exact absurd h0 HE.out)
              obtain ⟨w40, hw40⟩ : ∃ w40, w40 = w34 := ⟨_, rfl⟩
              rw [← hw40] at h34 ⊢
              have H40 := Lib.hid h34.pull4.pull4
              clear hw40 h34 H33 HRR
              obtain ⟨a5, c5, hh⟩ := rvh H40.out.right HLO.out
              obtain ⟨v5, hv5⟩ := H40.out.right.rvopen
              have HG5 := Lib.hid (GSl.own hv5.right.row rfl)
              have HC5 : Hid (∀ w', Fr w40 w' → w'.cell? ⟨X, 2, none⟩ = some (.slice a5 L.length c5)) := Lib.hid hh.len
              obtain rfl : v5 = .slice a5 L.length c5 := by
                have h1 : w40.cell? ⟨X, 2, none⟩ = some v5 := cellOf hv5.boxed rfl
                rw [hh.len w40 (Fr.refl _)] at h1
                exact (Option.some.inj h1).symm
              have HCD := Lib.hid (HC5.out _ (Fr.drew w40))
              have c2 := HC5.out _ (Fr.refl w40)
              clear hh hv5
              go_upto_region 44 with fail
              go_region_held3 (fun w' => w'.cell? ⟨X, 2, none⟩ = some (.slice a5 L.length c5))
                (first | exact HCD.out | exact HC42.out | exact HC41.out)
                (first
                  | (go_at_call 33; refine (sameG_any _ HA41.out (HG5.out.fr HF41.out) (by have := HLL.out; omega)).mono ?_; rintro e w42 ⟨rfl, hf⟩; have HF42 := Lib.hid (HF41.out.trans hf); have HC42 := Lib.hid (HC5.out _ HF42.out); clear hf)
                  | (go_at_call 34; refine (vclaims (H40.out.fr (Fr.drew w40)) (by have := HLL.out; omega)).mono ?_; rintro e w41 ⟨v6, rfl, ho6, hf⟩; have HA41 := Lib.hid (GSl.own ho6 rfl); obtain ⟨a6, c6, rfl⟩ := row_form ho6; have HF41 := Lib.hid ((Fr.drew w40).trans hf); have HC41 := Lib.hid (HC5.out _ HF41.out); clear hf ho6))
              all_goals (go_wp2_with fail; go_ret; exact ⟨rfl, H40.out.toFr.trans HF42.out⟩)
            · have H33 := Lib.hid (h33.map fun _ h => sp5 h)
              have HO1 := Lib.hid hO1
              have HK2 := Lib.hid (HKE.out (by first | rfl | trivial))
              clear h33 hO1 H1 HRV HKE
              go_upto_region 40 with (go_at_call 32; refine (HRR.out _ _ H33.out).mono ?_; rintro e w34 hr; rcases hr with ⟨h0, _⟩ | ⟨_, B2, rfl, _, h34⟩; exact absurd rfl h0)
              have H34 := Lib.hid h34
              clear h34 H33 HRR
              have HB1 := Lib.hid (vbytes H34.out.pull3 HK2.out (by have := HFL.out; omega) (HO1.out.wok HQ1.out) (HT.out.fr H34.out.toFr))
              have HB2 := Lib.hid (fun w' (hf : Fr w34 w') => rvbytes (H34.out.fr hf) HK2.out (by have := HFL.out; omega) (HO1.out.wok HQ1.out))
              generalize byT k2 L2 = z2 at *
              go_upto_region 44 with (first
                | (go_at_call 29; refine (HB2.out _ hf35).mono ?_; rintro e w36 ⟨rfl, hf36⟩)
                | (go_at_call 28; refine HB1.out.mono ?_; rintro e w35 ⟨rfl, hf35⟩))
              obtain ⟨w40, hw40⟩ : ∃ w40, w40 = w36 := ⟨_, rfl⟩
              rw [← hw40] at hf36 ⊢
              have H40 := Lib.hid (((H34.out.fr (hf35.trans hf36)).map fun _ h => sp5 h).map fun _ h => sep_under h fun _ h => sp5 h)
              clear hw40 hf35 hf36 H34 HB1 HB2
              obtain ⟨a5, c5, hh⟩ := rvh H40.out.right HLO.out
              obtain ⟨v5, hv5⟩ := H40.out.right.rvopen
              have HG5 := Lib.hid (GSl.own hv5.right.row rfl)
              have HC5 : Hid (∀ w', Fr w40 w' → w'.cell? ⟨X, 2, none⟩ = some (.slice a5 L.length c5)) := Lib.hid hh.len
              obtain rfl : v5 = .slice a5 L.length c5 := by
                have h1 : w40.cell? ⟨X, 2, none⟩ = some v5 := cellOf hv5.boxed rfl
                rw [hh.len w40 (Fr.refl _)] at h1
                exact (Option.some.inj h1).symm
              have HCD := Lib.hid (HC5.out _ (Fr.drew w40))
              have c2 := HC5.out _ (Fr.refl w40)
              clear hh hv5
              go_upto_region 44 with fail
              go_region_held3 (fun w' => w'.cell? ⟨X, 2, none⟩ = some (.slice a5 L.length c5))
                (first | exact HCD.out | exact HC42.out | exact HC41.out)
                (first
                  | (go_at_call 33; refine (sameG_any _ HA41.out (HG5.out.fr HF41.out) (by have := HLL.out; omega)).mono ?_; rintro e w42 ⟨rfl, hf⟩; have HF42 := Lib.hid (HF41.out.trans hf); have HC42 := Lib.hid (HC5.out _ HF42.out); clear hf)
                  | (go_at_call 34; refine (vclaims (H40.out.fr (Fr.drew w40)) (by have := HLL.out; omega)).mono ?_; rintro e w41 ⟨v6, rfl, ho6, hf⟩; have HA41 := Lib.hid (GSl.own ho6 rfl); obtain ⟨a6, c6, rfl⟩ := row_form ho6; have HF41 := Lib.hid ((Fr.drew w40).trans hf); have HC41 := Lib.hid (HC5.out _ HF41.out); clear hf ho6))
              all_goals (go_wp2_with fail; go_ret; exact ⟨rfl, H40.out.toFr.trans HF42.out⟩)
      · have HK := Lib.hid hk
        clear hk
        go_upto_region 16 with (first
          | (go_at_call 13; refine (rvnew_no _ key _ HK.out).mono ?_; rintro e w8 ⟨rfl, hf8⟩)
          | (go_at_call 12; refine (vnew_no _ key _ (.inr HK.out)).mono ?_; rintro e w7 ⟨rfl, hf7⟩))
        have HFF := Lib.hid (HR.out.toFr.trans (hf7.trans hf8))
        clear hf7 hf8 HR
        go_wp2_with fail
        go_ret
        exact ⟨rfl, HFF.out⟩
theorem tells_any (v : Value) (l : List Sy) (key i : Int) (nm od : Txt) (w : World) (ht : Tab w) (h : SySl w v l) (ha : SArg l) (hi : Wm.inInt i) (hn : nm.length ≤ 9223372036854775807) (ho : od.length ≤ 9223372036854775807) :
    Calls Tryz.prog 3 #[v, .int .i64 key, .int .i64 i, .string (S nm), .string (S od)] w fun e w' => e = .returned (.bool true) ∧ Fr w w' := by
  by_cases hb : BadT l nm od
  · exact tells_not v l key i nm od w h ha hn ho hb
  · unfold BadT at hb
    have hf : FewY l := Classical.not_not.1 fun hf => hb (.inl hf)
    exact tells_yes v l key i nm od w h ha hi (by omega) (by omega) hf ht
end Go.Proofs.YtapdabebiinnnaaGreatDoor
