/-
  NameGuards: the law's walk, for every argument.
-/
import Derived.Test.YtfhbgfoebppbaaaNr
import Derived.Test.YtfhbgfoebppbaaaNt
namespace Go.Proofs.Ytfhbgfoebppbaaa
open Go.RowKit Go.BigFrame

/-- An act: a name is given up, or taken. -/
structure Ac where
  drop : Bool
  name : Txt
  now : Int
  til : Int
def AcAt (w : World) (b o : Nat) (x : Ac) : Prop := w.cell? ⟨b, o, none⟩ = some (.bool x.drop) ∧ w.cell? ⟨b, o + 1, none⟩ = some (.string (S x.name)) ∧ w.cell? ⟨b, o + 2, none⟩ = some (.int .i64 x.now) ∧ w.cell? ⟨b, o + 3, none⟩ = some (.int .i64 x.til)
theorem AcAt.fr {w w' : World} {b o : Nat} {x : Ac} (h : AcAt w b o x) (hf : Fr w w') : AcAt w' b o x := ⟨hf.cell h.1, hf.cell h.2.1, hf.cell h.2.2.1, hf.cell h.2.2.2⟩
def AcIn (w : World) (b o : Nat) (l : List Ac) : Prop := ∀ (i : Nat) (h : i < l.length), AcAt w b (o + i * 4) l[i]
def AcSl (w : World) (v : Value) (l : List Ac) : Prop := (l = [] ∧ ∃ a c, v = .slice a 0 c) ∨ ∃ b o c, v = .slice (some ⟨b, o, none⟩) l.length c ∧ AcIn w b o l
theorem AcSl.fr {w w' : World} {v : Value} {l : List Ac} (h : AcSl w v l) (hf : Fr w w') : AcSl w' v l := by
  rcases h with h | ⟨b, o, c, hv, hc⟩
  · exact .inl h
  · exact .inr ⟨b, o, c, hv, fun i hi => (hc i hi).fr hf⟩
theorem AcSl.len {w : World} {v : Value} {l : List Ac} (h : AcSl w v l) : ∃ a c, v = .slice a l.length c := by
  rcases h with ⟨rfl, a, c, rfl⟩ | ⟨b, o, c, rfl, _⟩
  · exact ⟨a, c, rfl⟩
  · exact ⟨_, _, rfl⟩

theorem upd_mem {h : List Hd} {s : Txt} {u : Int} {x : Hd} (hx : x ∈ upd h s u) : x.1 = s ∨ ∃ y ∈ h, x.1 = y.1 := by
  induction h with
  | nil => simp [upd] at hx; exact .inl (by rw [hx])
  | cons y r ih =>
    unfold upd at hx
    split at hx
    · rcases List.mem_cons.1 hx with rfl | hx
      · exact .inr ⟨y, by simp, rfl⟩
      · exact .inr ⟨x, by simp [hx], rfl⟩
    · rcases List.mem_cons.1 hx with rfl | hx
      · exact .inr ⟨x, by simp, rfl⟩
      · rcases ih hx with h1 | ⟨z, hz, e⟩
        · exact .inl h1
        · exact .inr ⟨z, by simp [hz], e⟩
/-- What holds of the names that are taken, and the holds, after k acts. -/
structure GOk (k : Nat) (N : List Txt) (H : List Hd) : Prop where
  nlen : N.length ≤ k
  hlen : H.length ≤ k
  nok : ∀ t ∈ N, okN t = true
  hmem : ∀ t ∈ H, t.1.length ≤ 60
theorem GOk.ok {k : Nat} {N : List Txt} {H : List Hd} (h : GOk k N H) (hk : k ≤ 100) : Ok N := ⟨by have := h.nlen; omega, fun t ht => by have := okN_len (h.nok t ht); omega⟩
theorem GOk.hok {k : Nat} {N : List Txt} {H : List Hd} (h : GOk k N H) (hk : k ≤ 100) : HOk H := ⟨by have := h.hlen; omega, fun t ht => by have := h.hmem t ht; omega⟩
theorem GOk.next {k : Nat} {N : List Txt} {H : List Hd} (h : GOk k N H) : GOk (k + 1) N H := ⟨Nat.le_succ_of_le h.nlen, Nat.le_succ_of_le h.hlen, h.nok, h.hmem⟩
theorem GOk.take {k : Nat} {N : List Txt} {H : List Hd} (h : GOk k N H) {x : Txt} (hx : okN x = true) : GOk (k + 1) (N ++ [x]) H := ⟨by have := h.nlen; simp; omega, Nat.le_succ_of_le h.hlen, fun t ht => by
  rcases List.mem_append.1 ht with ht | ht
  · exact h.nok t ht
  · obtain rfl : t = x := by simpa using ht
    exact hx, h.hmem⟩
theorem GOk.drop {k : Nat} {N : List Txt} {H : List Hd} (h : GOk k N H) (i : Nat) (s : Txt) (u : Int) (hs : s.length ≤ 60) : GOk (k + 1) (N.take i ++ N.drop (i + 1)) (upd H s u) := ⟨by
  have := h.nlen
  simp only [List.length_append, List.length_take, List.length_drop]
  omega, by have := (upd_len H s u).2; have := h.hlen; omega, fun t ht => by
  rcases List.mem_append.1 ht with ht | ht
  · exact h.nok t (List.mem_of_mem_take ht)
  · exact h.nok t (List.mem_of_mem_drop ht), fun t ht => by
  rcases upd_mem ht with e | ⟨y, hy, e⟩
  · rw [e]; exact hs
  · rw [e]; exact h.hmem y hy⟩
theorem exec_add1 {a : Act} {o : Oper} {x : Operand} {m : Nat} (ho : o.op = .binOp .add 3 x (.const (.int .i64 1)) 3) (hx : a.eval x = .int .i64 m) (h1 : m ≤ 1000000) :
    ∀ w, (execOp a.eval o).run Try.prog w = .ok (.value (.int .i64 (m + 1 : Nat))) w := by
  intro w
  have g1 : (m : Int) ≤ 1000000 := by omega
  have hc : a.eval (.const (.int .i64 1)) = .int .i64 1 := rfl
  simp only [execOp, ho, hx, hc]
  go_simp
  simp only [IntKind.wrap, IntKind.bits]
  simp
  omega

theorem hl_kept {w w' : World} {v : Value} {H : List Hd} (h : Hl w v H) (ht : HT w v) (hk : ∀ (b : Nat) (cur : Array Value), w.heap[b]? = some (.cells cur 43 (0, 0)) → w'.heap[b]? = w.heap[b]?) : Hl w' v H ∧ HT w' v := by
  refine ⟨?_, fun a n c hv => ?_⟩
  · rcases h with h | ⟨b, o, c, rfl, hc⟩
    · exact .inl h
    · obtain ⟨cur, hb⟩ := ht _ _ _ rfl
      have he := hk b cur hb
      exact .inr ⟨b, o, c, rfl, fun i hi => ⟨by rw [World.cell?_of_block he]; exact (hc i hi).1, by rw [World.cell?_of_block he]; exact (hc i hi).2⟩⟩
  · obtain ⟨cur, hb⟩ := ht a n c hv
    exact ⟨cur, by rw [hk _ cur hb]; exact hb⟩
set_option linter.unusedSimpArgs false in
set_option maxRecDepth 100000 in
set_option maxHeartbeats 40000000 in
theorem guards_main (v : Value) (l : List Ac) (w : World) (hm : Mx w) (hl : AcSl w v l) (hn : l.length ≤ 60) (hb : ∀ x ∈ l, -9223372036854775808 ≤ x.til ∧ x.til ≤ 9223372036854775807) :
    Calls Try.prog 4 #[v] w fun e w' => e = .returned (.bool true) ∧ Fr w w' := by
  have d1 : decide ((60 : Int) < (l.length : Int)) = false := decide_eq_false (by omega)
  have HS := Lib.hid (small_any w hm)
  have HM := Lib.hid hm
  have HL := Lib.hid hl
  have HB := Lib.hid hb
  obtain ⟨i0, hi, hz0, hz1, hz2⟩ := info_parts infoStr
  have HI := Lib.hid hi
  obtain ⟨a, c, hv⟩ := hl.len
  clear hm hl hi hb
  subst hv
  go_enter Try.func4, Try.ntmps4
  go_wp2_with (go_at_call 8; refine HS.out.mono ?_; rintro e w1 ⟨rfl, hf1⟩; have HF := Lib.hid hf1; clear hf1)
  have HL1 := Lib.hid (HL.out.fr HF.out)
  have HM1 := Lib.hid (HM.out.fr HF.out)
  clear HS HL HM
  go_loopw [6, 4, 5, 7, 8, 9, 10, 11, 12, 13] (fun i vN vH _ _ _ _ _ _ _ wr => ∃ (k : Nat) (N : List Txt) (H : List Hd), k ≤ l.length ∧ i = .int .i64 k ∧ Hid (GOk k N H) ∧ Hid (Fr w1 wr) ∧ Hid (wr.ownsRow w1.heap.size 9 1 vN N.length (strs N)) ∧ Hid (Hl wr vH H) ∧ Hid (HT wr vH)) (fun i _ _ _ _ _ _ _ _ _ _ => l.length - (intOf i).toNat)
  case atStart => exact ⟨0, [], [], Nat.zero_le _, rfl, Lib.hid ⟨Nat.le_refl _, Nat.le_refl _, by simp, by simp⟩, Lib.hid (Fr.refl _), Lib.hid (World.ownsRow_nil _ _ _ _), Lib.hid (Hl.nil _ _ _), Lib.hid (fun a n c h => by cases h)⟩
  case round =>
    obtain ⟨k, N, H, hk, rfl, HG, HFr, HR, HH, HHT⟩ := hrel
    by_cases hlt : k < l.length
    · rcases HL1.out with ⟨h, _⟩ | ⟨b, o, c', hv', hat⟩
      · rw [h] at hlt; simp at hlt
      · cases hv'
        have hbx := HB.out _ (List.getElem_mem hlt)
        obtain ⟨c0, c1, c2, c3⟩ := (hat k hlt).fr HFr.out
        have HAT := Lib.hid hat
        clear hat
        generalize l[k] = x at *
        obtain ⟨xd, xn, xw, xt⟩ := x
        simp only at c0 c1 c2 c3 hbx
        have hA := Fr.alloc wr (.cells #[.bool xd, .string (S xn), .int .i64 xw, .int .i64 xt] 41)
        have hnew := (MapKept.heap_alloc wr (.cells #[.bool xd, .string (S xn), .int .i64 xw, .int .i64 xt] 41)).1
        have x0 := cellOf hnew (i := 0) rfl
        have x1 := cellOf hnew (i := 1) rfl
        have x2 := cellOf hnew (i := 2) rfl
        have x3 := cellOf hnew (i := 3) rfl
        obtain ⟨vNa, vNc, hvN⟩ := row_form HR.out
        obtain ⟨vHa, vHc, hvH⟩ := HH.out.len
        subst hvN hvH
        by_cases h30 : xn.length ≤ 30
        case neg =>
          have d2 : decide ((30 : Int) < (xn.length : Int)) = true := decide_eq_true (by omega)
          go_wp2_with fail
          go_ret
          exact ⟨rfl, HF.out.trans (HFr.out.trans hA)⟩
        case pos =>
          have d2 : decide ((30 : Int) < (xn.length : Int)) = false := decide_eq_false (by omega)
          have lx : xn.length ≤ 1099511627776 := by omega
          have HAw := Lib.hid (HFr.out.trans hA)
          have HRa := Lib.hid (own_fr HR.out hA)
          have HHa := Lib.hid (HH.out.fr hA)
          have HHTa := Lib.hid (HHT.out.fr hA)
          have hX := fun w' (hf : Fr (wr.alloc (.cells #[.bool xd, .string (S xn), .int .i64 xw, .int .i64 xt] 41)) w') => (⟨hf.cell x0, hf.cell x1, hf.cell x2, hf.cell x3⟩ : w'.cell? ⟨wr.heap.size, 0, none⟩ = some (.bool xd) ∧ w'.cell? ⟨wr.heap.size, 1, none⟩ = some (.string (S xn)) ∧ w'.cell? ⟨wr.heap.size, 2, none⟩ = some (.int .i64 xw) ∧ w'.cell? ⟨wr.heap.size, 3, none⟩ = some (.int .i64 xt))
          have HX := Lib.hid hX
          clear hX hA hnew HR HH HHT HFr
          go_upto_region 13 with fail
          clear c0 c1 c2 c3
          generalize wr.alloc (.cells #[.bool xd, .string (S xn), .int .i64 xw, .int .i64 xt] 41) = wa at *
          have hnl : N.length ≤ 60 := by have := HG.out.nlen; omega
          go_wp2_with fail
          go_loopw [9, 8] (fun j at_ wb => ∃ (q : Nat), q ≤ N.length ∧ j = .int .i64 q ∧ ((at_ = .int .i64 (-1) ∧ Hid (∀ (i : Nat) (hi : i < N.length), i < q → N[i] ≠ xn)) ∨ ∃ (i : Nat) (hi : i < N.length), at_ = .int .i64 i ∧ Hid (N[i] = xn)) ∧ Hid (Fr wa wb)) (fun j _ _ => N.length - (intOf j).toNat)
          case atStart => exact ⟨0, Nat.zero_le _, rfl, .inl ⟨rfl, Lib.hid (fun i hi h => by omega)⟩, Lib.hid (Fr.refl _)⟩
          case round =>
            obtain ⟨q, hq, rfl, hat2, hF2⟩ := hrel
            by_cases hlt2 : q < N.length
            · rcases (Sl.own HRa.out).cases with ⟨h, _⟩ | ⟨b2, o2, c2, hv2, hAt2⟩
              · rw [h] at hlt2; simp at hlt2
              · cases hv2
                have cq := hF2.out.cell (hAt2 q hlt2)
                have x1q := (HX.out _ hF2.out).2.1
                have HE := Lib.hid (fun h : N[q] = xn => show ∃ (i : Nat) (hi : i < N.length), Value.int .i64 (q : Int) = .int .i64 i ∧ Hid (N[i] = xn) from ⟨q, hlt2, rfl, Lib.hid h⟩)
                have HN := Lib.hid (fun (h : N[q] ≠ xn) (hold : ∀ (i : Nat) (hi : i < N.length), i < q → N[i] ≠ xn) => show ∀ (i : Nat) (hi : i < N.length), i < q + 1 → N[i] ≠ xn from fun i hi hiq => by
                  rcases Nat.lt_or_ge i q with h1 | h1
                  · exact hold i hi h1
                  · obtain rfl : i = q := by omega
                    exact h)
                clear hAt2
                generalize N[q] = y at *
                by_cases he : y = xn
                · subst he
                  have HE2 := Lib.hid (HE.out rfl)
                  go_wp2_with fail
                  go_quiet (fail)
                  go_wp2_with fail
                  go_roundw
                  case rel => exact ⟨q + 1, by omega, by go_num, .inr HE2.out, Lib.hid (hF2.out.trans (Fr.drewN _ _))⟩
                  case measure => simp [intOf]; omega
                · have e1 : (y == xn) = false := by simpa using he
                  rcases hat2 with ⟨rfl, h2⟩ | ⟨i, hi, rfl, h2⟩
                  · have HN2 := Lib.hid (HN.out he h2.out)
                    go_wp2_with fail
                    go_quiet (fail)
                    go_wp2_with fail
                    go_roundw
                    case rel => exact ⟨q + 1, by omega, by go_num, .inl ⟨rfl, HN2⟩, Lib.hid (hF2.out.trans (Fr.drewN _ _))⟩
                    case measure => simp [intOf]; omega
                  · go_wp2_with fail
                    go_quiet (fail)
                    go_wp2_with fail
                    go_roundw
                    case rel => exact ⟨q + 1, by omega, by go_num, .inr ⟨i, hi, rfl, h2⟩, Lib.hid (hF2.out.trans (Fr.drewN _ _))⟩
                    case measure => simp [intOf]; omega
            · obtain rfl : q = N.length := by omega
              obtain ⟨x0, x1, x2, x3⟩ := HX.out _ hF2.out
              have HAx := Lib.hid (HAw.out.trans hF2.out)
              have HRx := Lib.hid (own_fr HRa.out hF2.out)
              have HHx := Lib.hid (HHa.out.fr hF2.out)
              have HTx := Lib.hid (HHTa.out.fr hF2.out)
              have HXx := Lib.hid (fun w' hf => HX.out w' (hF2.out.trans hf))
              have HMx := Lib.hid (HM1.out.fr HAx.out)
              clear HAw HRa HHa HHTa HX hF2
              cases xd with
              | true =>
                rcases hat2 with ⟨rfl, h2⟩ | ⟨i, hi, rfl, h2⟩
                · go_wp2_with fail
                  go_roundw
                  case rel => exact ⟨k + 1, N, H, by omega, by go_num, Lib.hid HG.out.next, HAx, HRx, HHx, HTx⟩
                  case measure => simp [intOf]; omega
                · have g1 : decide ((0 : Int) ≤ (i : Int)) = true := decide_eq_true (by omega)
                  have hokx : okN xn = true := by rw [← h2.out]; exact HG.out.nok _ (List.getElem_mem hi)
                  have hD := drop_anyT _ H xn xt _ HHx.out (HG.out.hok (by omega)) HMx.out lx hbx.1 hbx.2
                  unfold DropT at hD
                  by_cases t1 : xt < 0
                  · have r1 : decide ((0 : Int) ≤ xt) = false := decide_eq_false (by omega)
                    have hdr : drE xn xt = 1 := by unfold drE; rw [hokx, if_neg (by simp), if_pos (.inl t1)]
                    rw [hdr] at hD
                    have HD := Lib.hid hD
                    clear hD hdr
                    go_wp2_with (go_at_call 13; refine HD.out.mono ?_; rintro e wd ⟨vd, rfl, hhd, hfd, htd⟩; have HFd := Lib.hid hfd; obtain ⟨y0, y1, y2, y3⟩ := HXx.out _ hfd; clear hfd)
                    go_roundw
                    case rel => exact ⟨k + 1, N, H, by omega, by go_num, Lib.hid HG.out.next, Lib.hid (HAx.out.trans HFd.out), Lib.hid (own_fr HRx.out HFd.out), Lib.hid (HHx.out.fr HFd.out), Lib.hid (HTx.out.fr HFd.out)⟩
                    case measure => simp [intOf]; omega
                  · by_cases t2 : xt ≤ 1073741824
                    · have r1 : decide ((0 : Int) ≤ xt) = true := decide_eq_true (by omega)
                      have r2 : decide (xt ≤ 1073741824) = true := decide_eq_true t2
                      have hdr : drE xn xt = 0 := by unfold drE; rw [hokx, if_neg (by simp), if_neg (by omega)]
                      rw [hdr, drp_yes hdr] at hD
                      have HD := Lib.hid hD
                      clear hD hdr
                      go_upto_region 24 with (go_at_call 13; refine HD.out.mono ?_; rintro e wd ⟨vd, rfl, hhd, hfd, htd⟩; have HFd := Lib.hid hfd; have HHd := Lib.hid hhd; have HTd := Lib.hid htd; obtain ⟨y0, y1, y2, y3⟩ := HXx.out _ hfd; clear hfd hhd htd)
                      have HRd := Lib.hid (own_fr HRx.out HFd.out)
                      have hcapat : ∃ g, vNa = some ⟨g, 0, none⟩ ∧ N.length ≤ vNc ∧ At wd g 0 N := by
                        rcases HRd.out.2 with ⟨h1, h0⟩ | ⟨g, cap, cur, h1, _, _, hc, _, _, _⟩
                        · omega
                        · cases h1
                          rcases (Sl.own HRd.out).cases with ⟨h, _⟩ | ⟨b3, o3, c3, hv3, hA3⟩
                          · rw [h] at hi; simp at hi
                          · cases hv3
                            exact ⟨g, rfl, hc, hA3⟩
                      obtain ⟨g, rfl, hcap, hA3⟩ := hcapat
                      obtain ⟨ad2, had2⟩ : ∃ y : Addr, y = if vNc = i + 1 then ⟨g, 0, none⟩ else (⟨g, 0, none⟩ : Addr).add (i + 1) := ⟨_, rfl⟩
                      have HAD := Lib.hid had2
                      have HC1 := Lib.hid (fun w' (hf : Fr wd w') => (hA3.fr hf).piece 0 (fun _ => True) (N.take i) (fun j hj => by
                        rw [List.length_take] at hj
                        exact ⟨by omega, by rw [List.getElem_take]; congr 1; omega⟩) ⟨g, 0, none⟩ (fun h => by rw [Nat.add_zero]))
                      have HC2 := Lib.hid (fun w' (hf : Fr wd w') => (hA3.fr hf).piece (i + 1) (fun _ => True) (N.drop (i + 1)) (fun j hj => by
                        rw [List.length_drop] at hj
                        exact ⟨by omega, by rw [List.getElem_drop]⟩) ad2 (fun h => by
                        rw [List.length_drop] at h
                        rw [HAD.out, if_neg (by omega), add_none]))
                      have HO := Lib.hid (own_empty wd)
                      clear had2 hA3 y0 y1 y2 y3
                      refine wp_gen (fun a0 ha0 => ?_)
                      have e4 : a0.eval (.tmp 4) = .slice (some ⟨g, 0, none⟩) N.length vNc := by rw [ha0]; rfl
                      have e8 : a0.eval (.tmp 8) = .int .i64 i := by rw [ha0]; rfl
                      have es : a0.tmps.size = 146 := by rw [ha0]; rfl
                      have HA0 := Lib.hid ha0
                      clear ha0
                      refine wp_region_any (by kernel_rfl) ?_
                      change wpAny _ _ _ _ _ _ _ (World.drew _)
                      refine wpAny_take (i := 1) (oi := ⟨some 78, _, _, _, _, _⟩) (v := .slice (some ⟨g, 0, none⟩) N.length vNc) rfl (by kernel_rfl) (by kernel_rfl) (by kernel_rfl) (fun _ _ _ h => h) (Or.inl ⟨rfl, exec_move (x := .tmp 4) (.inl rfl) (by simp [Act.eval_put_same, Act.eval_put_ne, Act.size_put, e4, e8, es])⟩) ?_
                      refine wpAny_take (i := 2) (oi := ⟨some 79, _, _, _, _, _⟩) (v := .int .i64 i) rfl (by kernel_rfl) (by kernel_rfl) (by kernel_rfl) (fun _ _ _ h => h) (Or.inl ⟨rfl, exec_move (x := .tmp 8) (.inl rfl) (by simp [Act.eval_put_same, Act.eval_put_ne, Act.size_put, e4, e8, es])⟩) ?_
                      refine wpAny_take (i := 3) (oi := ⟨some 80, _, _, _, _, _⟩) (v := .slice (some ⟨g, 0, none⟩) i vNc) rfl (by kernel_rfl) (by kernel_rfl) (by kernel_rfl) (fun _ _ _ h => h) (Or.inl ⟨rfl, exec_to (len := N.length) rfl (by simp [Act.eval_put_same, Act.eval_put_ne, Act.size_put, e4, e8, es]) (by simp [Act.eval_put_same, Act.eval_put_ne, Act.size_put, e4, e8, es]) (by omega)⟩) ?_
                      refine wpAny_take (i := 5) (oi := ⟨some 82, _, _, _, _, _⟩) (v := .slice (some ⟨g, 0, none⟩) N.length vNc) rfl (by kernel_rfl) (by kernel_rfl) (by kernel_rfl) (fun _ _ _ h => h) (Or.inl ⟨rfl, exec_move (x := .tmp 4) (.inl rfl) (by simp [Act.eval_put_same, Act.eval_put_ne, Act.size_put, e4, e8, es])⟩) ?_
                      refine wpAny_take (i := 6) (oi := ⟨some 83, _, _, _, _, _⟩) (v := .int .i64 i) rfl (by kernel_rfl) (by kernel_rfl) (by kernel_rfl) (fun _ _ _ h => h) (Or.inl ⟨rfl, exec_move (x := .tmp 8) (.inl rfl) (by simp [Act.eval_put_same, Act.eval_put_ne, Act.size_put, e4, e8, es])⟩) ?_
                      refine wpAny_take (i := 7) (oi := ⟨some 84, _, _, _, _, _⟩) (v := .int .i64 (i + 1 : Nat)) rfl (by kernel_rfl) (by kernel_rfl) (by kernel_rfl) (fun _ _ _ h => h) (Or.inl ⟨rfl, exec_add1 rfl (by simp [Act.eval_put_same, Act.eval_put_ne, Act.size_put, e4, e8, es]) (by omega)⟩) ?_
                      refine wpAny_take (i := 8) (oi := ⟨some 85, _, _, _, _, _⟩) (v := .slice (some ad2) (N.length - (i + 1)) (vNc - (i + 1))) rfl (by kernel_rfl) (by kernel_rfl) (by kernel_rfl) (fun _ _ _ h => h) (Or.inl ⟨rfl, exec_from (n := i + 1) rfl (by simp [Act.eval_put_same, Act.eval_put_ne, Act.size_put, e4, e8, es]) (by simp [Act.eval_put_same, Act.eval_put_ne, Act.size_put, e4, e8, es]) (by omega) hcap HAD.out⟩) ?_
                      refine wpAny_ready (rs := [0]) (by kernel_rfl) (by simp) (AllReady.cons (o := ⟨some 77, _, _, _, _, _⟩) rfl (fun K hK => ?_) AllReady.nil)
                      refine step_build0 rfl rfl (hK _ _ ?_)
                      clear hK K
                      refine wpAny_ready (rs := [4]) (by kernel_rfl) (by simp) (AllReady.cons (o := ⟨some 81, _, _, _, _, _⟩) rfl (fun K hK => ?_) AllReady.nil)
                      refine step_append_own rfl (.tmp 77) (.tmp 80) 22 rfl wd.heap.size 9 i0 (.string (S [])) 1 16 Try.underlying22 HI.out hz0 hz1 hz2 rfl (by decide) (.slice (some ⟨wd.heap.size, 0, none⟩) 0 0) 0 [] (by simp [Act.eval_put_same, Act.eval_put_ne, Act.size_put, e4, e8, es]) HO.out ⟨g, 0, none⟩ i vNc (strs (N.take i)) (by simp [Act.eval_put_same, Act.eval_put_ne, Act.size_put, e4, e8, es]) (by rw [strs_len, List.length_take, Nat.mul_one, Nat.min_eq_left (by omega)]) (HC1.out _ (Fr.trans (Fr.alloc wd _) (Fr.drew _))) (strs_one _) (by unfold maxLen; omega) (by omega) (by simp) ?_
                      intro v3 w3 hown3 hgr3
                      have HF3 := Lib.hid (fr_row ((Fr.alloc wd (.cells #[] 9)).trans (Fr.drew _)) HO.out (Nat.le_refl _) hgr3)
                      have HO3 := Lib.hid hown3
                      clear hown3 hgr3
                      refine hK _ _ ?_
                      clear hK K
                      refine wpAny_ready (rs := [9]) (by kernel_rfl) (by simp) (AllReady.cons (o := ⟨some 86, _, _, _, _, _⟩) rfl (fun K hK => ?_) AllReady.nil)
                      refine step_append_own rfl (.tmp 81) (.tmp 85) 22 rfl wd.heap.size 9 i0 (.string (S [])) 1 16 Try.underlying22 HI.out hz0 hz1 hz2 rfl (by decide) v3 (0 + i) ([] ++ strs (N.take i)) (by simp [Act.eval_put_same, Act.eval_put_ne, Act.size_put, e4, e8, es]) HO3.out ad2 (N.length - (i + 1)) (vNc - (i + 1)) (strs (N.drop (i + 1))) (by simp [Act.eval_put_same, Act.eval_put_ne, Act.size_put, e4, e8, es]) (by rw [strs_len, List.length_drop, Nat.mul_one]) (HC2.out _ HF3.out) (strs_one _) (by unfold maxLen; omega) (by omega) HF3.out.size ?_
                      intro v4' w4 hown4 hgr4
                      have HF4 := Lib.hid (fr_row HF3.out HO3.out (Nat.le_refl _) hgr4)
                      have HO4 := Lib.hid hown4
                      clear hown4 hgr4
                      refine hK _ _ ?_
                      clear hK K
                      refine wpAny_take (i := 10) (oi := ⟨some 4, _, _, _, _, _⟩) (v := v4') rfl (by kernel_rfl) (by kernel_rfl) (by kernel_rfl) (fun _ _ _ h => h) (Or.inl ⟨rfl, exec_move (x := .tmp 86) (.inr rfl) (by simp [Act.eval_put_same, Act.eval_put_ne, Act.size_put, e4, e8, es])⟩) ?_
                      refine wpAny_done (by kernel_rfl) ?_ _
                      rw [HA0.out]
                      simp only [Act.put, List.setIfInBounds_toArray, List.set_cons_zero, List.set_cons_succ]
                      obtain ⟨y0, y1, y2, y3⟩ := HXx.out w4 (HFd.out.trans HF4.out)
                      go_wp2_with fail
                      have HRn := Lib.hid (show w4.ownsRow w1.heap.size 9 1 v4' (N.take i ++ N.drop (i + 1)).length (strs (N.take i ++ N.drop (i + 1))) from by
                        have h5 := own_base HO4.out (b := w1.heap.size) (Nat.le_trans HAx.out.size HFd.out.size)
                        rw [List.nil_append, ← strs_app] at h5
                        have h6 : (N.take i ++ N.drop (i + 1)).length = 0 + i + (N.length - (i + 1)) := by simp only [List.length_append, List.length_take, List.length_drop]; omega
                        rw [h6]
                        exact h5)
                      go_roundw
                      case rel => exact ⟨k + 1, N.take i ++ N.drop (i + 1), upd H xn xt, by omega, by go_num, Lib.hid (HG.out.drop i xn xt (by omega)), Lib.hid (HAx.out.trans (HFd.out.trans HF4.out)), HRn, Lib.hid (HHd.out.fr HF4.out), Lib.hid (HTd.out.fr HF4.out)⟩
                      case measure => simp [intOf]; omega
                    · have r1 : decide ((0 : Int) ≤ xt) = true := decide_eq_true (by omega)
                      have r2 : decide (xt ≤ 1073741824) = false := decide_eq_false t2
                      have hdr : drE xn xt = 1 := by unfold drE; rw [hokx, if_neg (by simp), if_pos (.inr (by omega))]
                      rw [hdr] at hD
                      have HD := Lib.hid hD
                      clear hD hdr
                      go_wp2_with (go_at_call 13; refine HD.out.mono ?_; rintro e wd ⟨vd, rfl, hhd, hfd, htd⟩; have HFd := Lib.hid hfd; obtain ⟨y0, y1, y2, y3⟩ := HXx.out _ hfd; clear hfd)
                      go_roundw
                      case rel => exact ⟨k + 1, N, H, by omega, by go_num, Lib.hid HG.out.next, Lib.hid (HAx.out.trans HFd.out), Lib.hid (own_fr HRx.out HFd.out), Lib.hid (HHx.out.fr HFd.out), Lib.hid (HTx.out.fr HFd.out)⟩
                      case measure => simp [intOf]; omega
              | false =>
                clear hat2
                have hF := free_any _ _ N H xn xw _ (Sl.own HRx.out) (HG.out.ok (by omega)) HHx.out (HG.out.hok (by omega)) HMx.out lx
                by_cases hE : fre N H xn xw = 0
                case neg =>
                  have hne : (fre N H xn xw == 0) = false := by simpa using hE
                  generalize fre N H xn xw = E at *
                  have HFr := Lib.hid hF
                  clear hF hE
                  go_wp2_with (go_at_call 24; refine HFr.out.mono ?_; rintro e wf ⟨rfl, hff⟩; have HFf := Lib.hid hff; clear hff)
                  go_roundw
                  case rel => exact ⟨k + 1, N, H, by omega, by go_num, Lib.hid HG.out.next, Lib.hid (HAx.out.trans HFf.out), Lib.hid (own_fr HRx.out HFf.out), Lib.hid (HHx.out.fr HFf.out), Lib.hid (HTx.out.fr HFf.out)⟩
                  case measure => simp [intOf]; omega
                case pos =>
                  obtain ⟨hokx, hnc, hnh⟩ := (fre_ok N H xn xw).1 hE
                  rw [hE] at hF
                  have HFr := Lib.hid hF
                  have HNC := Lib.hid hnc
                  have HNH := Lib.hid hnh
                  have HGo := Lib.hid (HG.out.ok (k := k) (by omega))
                  have HGh := Lib.hid (HG.out.hok (k := k) (by omega))
                  clear hF hE hnc hnh
                  go_wp2_with (go_at_call 24; refine HFr.out.mono ?_; rintro e wf ⟨rfl, hff⟩; have HFf := Lib.hid hff; clear hff)
                  go_loopw [12] (fun j wg => ∃ q : Nat, q ≤ N.length ∧ j = .int .i64 q ∧ Hid (Fr wf wg)) (fun j _ => N.length - (intOf j).toNat)
                  case atStart => exact ⟨0, Nat.zero_le _, rfl, Lib.hid (Fr.refl _)⟩
                  case round =>
                    obtain ⟨q, hq, rfl, hF3⟩ := hrel
                    by_cases hlt3 : q < N.length
                    · rcases (Sl.own HRx.out).cases with ⟨h, _⟩ | ⟨b3, o3, c3, hv3, hA3⟩
                      · rw [h] at hlt3; simp at hlt3
                      · cases hv3
                        have cq := hF3.out.cell (HFf.out.cell (hA3 q hlt3))
                        have x1q := (HXx.out _ (HFf.out.trans hF3.out)).2.1
                        have hc := HNC.out _ (List.getElem_mem hlt3)
                        have ly := HGo.out.mem _ (List.getElem_mem hlt3)
                        have hcall := fun w => conf_any N[q] xn w ly lx
                        rw [hc] at hcall
                        have HC := Lib.hid hcall
                        clear hcall hc hA3
                        generalize N[q] = y at *
                        go_upto_region 29 with fail
                        refine wp_region_cls (D := Fr wr) (by kernel_rfl) (by kernel_rfl) (Fr.drew wr) ?_
                        repeat (go_big_quiet_step (first
                          | (intro hw'; with_reducible rfl)
                          | (intro hw'; go_at_call 20; exact (HC.out _).mono fun e w'' ⟨he, hf⟩ => ⟨he, Fr.trans hw' hf⟩)
                          | (intro hw'; have g1 := Fr.cell hw' cq; simp only [g1]; exact ⟨rfl, rfl⟩)
                          | (intro hw'; have g1 := Fr.cell hw' x1q; simp only [g1]; exact ⟨rfl, rfl⟩)))
                        refine wpQuiet_nil ?_
                        intro wh hwh
                        go_wp2_with fail
                        go_roundw
                        case rel => exact ⟨q + 1, by omega, by go_num, Lib.hid (hF3.out.trans hwh)⟩
                        case measure => simp [intOf]; omega
                    · obtain rfl : q = N.length := by omega
                      have hhl : H.length ≤ 60 := by have := HG.out.hlen; omega
                      go_wp2_with fail
                      go_loopw [13] (fun j wg => ∃ q : Nat, q ≤ H.length ∧ j = .int .i64 q ∧ Hid (Fr wf wg)) (fun j _ => H.length - (intOf j).toNat)
                      case atStart => exact ⟨0, Nat.zero_le _, rfl, hF3⟩
                      case round =>
                        obtain ⟨q, hq4, rfl, hF4⟩ := hrel
                        by_cases hlt4 : q < H.length
                        · rcases HHx.out with ⟨h, _⟩ | ⟨b4, o4, c4, hv4, hA4⟩
                          · rw [h] at hlt4; simp at hlt4
                          · cases hv4
                            have cq := hF4.out.cell (HFf.out.cell (hA4 q hlt4).1)
                            have cu := hF4.out.cell (HFf.out.cell (hA4 q hlt4).2)
                            obtain ⟨x0q, x1q, x2q, x3q⟩ := HXx.out _ (HFf.out.trans hF4.out)
                            have ly := HGh.out.mem _ (List.getElem_mem hlt4)
                            have hno : (decide (xw < H[q].2) && cf H[q].1 xn) = false := by
                              cases hh : (decide (xw < H[q].2) && cf H[q].1 xn) with
                              | false => rfl
                              | true =>
                                have h9 : hld H xn xw = true := List.any_eq_true.2 ⟨_, List.getElem_mem hlt4, hh⟩
                                rw [HNH.out] at h9; cases h9
                            have hcall := fun w => conf_any H[q].1 xn w ly lx
                            clear hA4
                            generalize H[q] = y at *
                            obtain ⟨y1, y2⟩ := y
                            simp only at cq cu ly hno hcall
                            cases hc : cf y1 xn with
                            | false =>
                              rw [hc] at hcall
                              have HC := Lib.hid hcall
                              clear hcall hno
                              go_upto_region 34 with fail
                              refine wp_region_cls (D := Fr wr) (by kernel_rfl) (by kernel_rfl) (Fr.drew wr) ?_
                              repeat (go_big_quiet_step (first
                                | (intro hw'; with_reducible rfl)
                                | (intro hw'; go_at_call 20; exact (HC.out _).mono fun e w'' ⟨he, hf⟩ => ⟨he, Fr.trans hw' hf⟩)
                                | (intro hw'; have g1 := Fr.cell hw' cq; simp only [g1]; exact ⟨rfl, rfl⟩)
                                | (intro hw'; have g1 := Fr.cell hw' cu; simp only [g1]; exact ⟨rfl, rfl⟩)
                                | (intro hw'; have g1 := Fr.cell hw' x1q; simp only [g1]; exact ⟨rfl, rfl⟩)
                                | (intro hw'; have g1 := Fr.cell hw' x2q; simp only [g1]; exact ⟨rfl, rfl⟩)))
                              refine wpQuiet_nil ?_
                              intro wh hwh
                              go_wp2_with fail
                              go_roundw
                              case rel => exact ⟨q + 1, by omega, by go_num, Lib.hid (hF4.out.trans hwh)⟩
                              case measure => simp [intOf]; omega
                            | true =>
                              rw [hc] at hcall
                              have HC := Lib.hid hcall
                              have hy : decide (xw < y2) = false := by rw [hc, Bool.and_true] at hno; exact hno
                              clear hcall hno
                              go_upto_region 34 with fail
                              refine wp_region_cls (D := Fr wr) (by kernel_rfl) (by kernel_rfl) (Fr.drew wr) ?_
                              repeat (go_big_quiet_step (first
                                | (intro hw'; with_reducible rfl)
                                | (intro hw'; go_at_call 20; exact (HC.out _).mono fun e w'' ⟨he, hf⟩ => ⟨he, Fr.trans hw' hf⟩)
                                | (intro hw'; have g1 := Fr.cell hw' cq; simp only [g1]; exact ⟨rfl, rfl⟩)
                                | (intro hw'; have g1 := Fr.cell hw' cu; simp only [g1]; exact ⟨rfl, rfl⟩)
                                | (intro hw'; have g1 := Fr.cell hw' x1q; simp only [g1]; exact ⟨rfl, rfl⟩)
                                | (intro hw'; have g1 := Fr.cell hw' x2q; simp only [g1]; exact ⟨rfl, rfl⟩)))
                              refine wpQuiet_nil ?_
                              intro wh hwh
                              go_wp2_with fail
                              go_roundw
                              case rel => exact ⟨q + 1, by omega, by go_num, Lib.hid (hF4.out.trans hwh)⟩
                              case measure => simp [intOf]; omega
                        · obtain rfl : q = H.length := by omega
                          have hr := right_any xn wr (HMx.out.fr (HFf.out.trans hF4.out)) lx
                          rw [hokx] at hr
                          have HRt := Lib.hid hr
                          obtain ⟨x0q, x1q, x2q, x3q⟩ := HXx.out _ (HFf.out.trans hF4.out)
                          have HRn := Lib.hid (own_fr (own_fr HRx.out HFf.out) hF4.out)
                          have HFn := Lib.hid (HAx.out.trans (HFf.out.trans hF4.out))
                          have HHn := Lib.hid (HHx.out.fr (HFf.out.trans hF4.out))
                          have HTn := Lib.hid (HTx.out.fr (HFf.out.trans hF4.out))
                          have hnl2 : N.length ≤ 1000 := by omega
                          clear hr
                          go_upto_region 38 with (go_at_call 16; refine HRt.out.mono ?_; rintro e w5 ⟨rfl, rfl⟩)
                          go_wp2_with (at_builtin; refine wpList_append_own _ rfl (.tmp 140) (.tmp 143) 22 rfl w1.heap.size 9 i0 (.string (S [])) 1 16 Try.underlying22 HI.out hz0 hz1 hz2 rfl (by decide) _ _ _ rfl (HRn.out.alloc _) ⟨w5.heap.size, 0, none⟩ 1 1 [.string (S xn)] rfl rfl (World.news_of_block (cs := #[.string (S xn)]) (t := 9) (fr := (0, 0)) (heap_alloc_new w5 _)) (by simp [Value.oneCell']) (by unfold maxLen; omega) (by omega) (by have := HFn.out.size; simp; omega) ?_; intro v6 w6 hown6 hgrow6 _)
                          have hF6 := Fr.growO (HFn.out.trans (Fr.alloc w5 _)) hgrow6 (fun p hp => (HRn.out.lt p hp).1)
                          have hK6 := hl_kept (w' := w6) HHn.out HTn.out (fun b cur hb => by
                            have hlt := (Array.getElem?_eq_some_iff.1 hb).1
                            rw [hgrow6.block b (by simp; omega) (fun e => row_ne HRn.out hb (by decide) b e.symm rfl)]
                            exact (Fr.alloc w5 _).block hlt)
                          have HR6 := Lib.hid (show w6.ownsRow w1.heap.size 9 1 v6 (N ++ [xn]).length (strs (N ++ [xn])) from by
                            rw [strs_app, List.length_append]
                            exact hown6)
                          have HF6 := Lib.hid hF6
                          have HH6 := Lib.hid hK6.1
                          have HT6 := Lib.hid hK6.2
                          clear hown6 hgrow6 hF6 hK6
                          go_roundw
                          case rel => exact ⟨k + 1, N ++ [xn], H, by omega, by go_num, Lib.hid (HG.out.take hokx), HF6, HR6, HH6, HT6⟩
                          case measure => simp [intOf]; omega
    · obtain rfl : k = l.length := by omega
      go_wp2_with fail
      go_ret
      exact ⟨rfl, HF.out.trans HFr.out⟩
set_option maxRecDepth 100000 in
set_option maxHeartbeats 4000000 in
theorem guards_any (v : Value) (l : List Ac) (w : World) (hm : Mx w) (hl : AcSl w v l) (hb : ∀ x ∈ l, -9223372036854775808 ≤ x.til ∧ x.til ≤ 9223372036854775807) :
    Calls Try.prog 4 #[v] w fun e w' => e = .returned (.bool true) ∧ Fr w w' := by
  by_cases hn : l.length ≤ 60
  · exact guards_main v l w hm hl hn hb
  · have HS := Lib.hid (small_any w hm)
    have d1 : decide ((60 : Int) < (l.length : Int)) = true := decide_eq_true (by omega)
    obtain ⟨a, c, hv⟩ := hl.len
    clear hm hl hb
    subst hv
    go_enter Try.func4, Try.ntmps4
    go_wp2_with (go_at_call 8; refine HS.out.mono ?_; rintro e w1 ⟨rfl, hf1⟩; have HF := Lib.hid hf1; clear hf1)
    go_ret
    exact ⟨rfl, HF.out⟩
end Go.Proofs.Ytfhbgfoebppbaaa
