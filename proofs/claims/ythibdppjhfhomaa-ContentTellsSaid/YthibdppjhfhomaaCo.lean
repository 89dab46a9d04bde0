/-
  Contracts of the reference: Join.
-/
import Derived.Test.YthibdppjhfhomaaCn
namespace Go.Proofs.Ythibdppjhfhomaa
open Go.RowKit Go.MapKept Go.Maps Go.WideMaps

theorem own_other {w w' : World} {base base' e e' size n m : Nat} {v u : Value} {xs ys : List Value} (h : w.ownsRow base e size v n xs) (ho : w.ownsRow base' e' 1 u m ys) (hne : e ≠ e') (hg : w.grownBy w' u.ownBlock) : w'.ownsRow base e size v n xs := by
  refine ⟨h.1, ?_⟩
  rcases h.2 with hv | ⟨g, cap, cur, rfl, h2, hc, h3⟩
  · exact .inl hv
  · refine .inr ⟨g, cap, cur, rfl, h2, ?_, h3⟩
    rw [hg.block g (Array.getElem?_eq_some_iff.1 hc).1 ?_]
    · exact hc
    · rcases ho.2 with ⟨rfl, _⟩ | ⟨g', cap', cur', rfl, _, hc', _⟩
      · simp [Value.ownBlock]
      · simp only [Value.ownBlock, ne_eq, Option.some.injEq]
        rintro rfl
        rw [hc] at hc'
        simp only [Option.some.injEq, Obj.cells.injEq] at hc'
        exact hne hc'.2.1

theorem rjoin_bad1 {v u : Value} {a : List Txt} (w : World) (h : Sl w v a) (ha : Ok a) (hr : ¬ Rt a) :
    Calls Try.prog 14 #[v, u] w fun e w' => e = .returned (.tuple #[.slice none 0 0, .slice none 0 0, .int .i64 1]) ∧ Fr w w' := by
  go_enter Try.func14, Try.ntmps14
  go_wp2_with (go_at_call 21; refine (rright_bad _ h ha hr).mono ?_; rintro e w' ⟨rfl, hF⟩)
  go_ret3
  exact ⟨rfl, hF⟩
theorem rjoin_bad2 {v u : Value} {a b : List Txt} (w : World) (h : Sl w v a) (ha : Ok a) (hr : Rt a) (h' : Sl w u b) (hb : Ok b) (hr' : ¬ Rt b) :
    Calls Try.prog 14 #[v, u] w fun e w' => e = .returned (.tuple #[.slice none 0 0, .slice none 0 0, .int .i64 1]) ∧ Fr w w' := by
  go_enter Try.func14, Try.ntmps14
  go_wp2_with (first
    | (go_at_call 21; refine (rright_bad _ (h'.fr hF) hb hr').mono ?_; rintro e w2 ⟨rfl, hF2⟩)
    | (go_at_call 21; refine (rright_good _ h ha hr).mono ?_; rintro e w' ⟨rfl, hF⟩))
  go_ret3
  exact ⟨rfl, hF.trans hF2⟩

/-- The prints so far. -/
def jp (a b : List Txt) (k : Nat) : List Int := (b.take k).map fun s => (pj a b s : Int)
theorem jp_succ (a b : List Txt) (k : Nat) (hk : k < b.length) : jp a b (k + 1) = jp a b k ++ [(pj a b b[k] : Int)] := by
  unfold jp
  rw [List.take_succ_eq_append_getElem hk, List.map_append]; rfl

set_option maxHeartbeats 4000000 in
theorem rjoin_good {v : Value} {bd : Option Addr} {bc : Nat} {l b : List Txt} (w : World) (h : Sl w v l) (hz : Nz v) (ha : Ok l) (hr : Rt l) (h' : Sl w (.slice bd b.length bc) b) (hb : Ok b) (hr' : Rt b) :
    Calls Try.prog 14 #[v, .slice bd b.length bc] w fun e w' => ∃ v' u', e = .returned (.tuple #[v', u', .int .i64 (joinO l b).2.2]) ∧ Sl w' v' (joinO l b).1 ∧ Il w' u' (joinO l b).2.1 ∧ Fr w w' := by
  obtain ⟨i0, hi, hz0, hz1, hz2⟩ := info_parts infoStr
  obtain ⟨j0, hj, hy0, hy1, hy2⟩ := info_parts infoInt
  have H := Lib.hid h
  have H' := Lib.hid h'
  have HZ := Lib.hid hz
  have HL := Lib.hid ha
  have HR := Lib.hid hr
  have HB := Lib.hid hb
  have HRB := Lib.hid hr'
  have hl1 := ha.1
  have hb1 := hb.1
  clear h h' hz ha hb hr hr'
  go_enter Try.func14, Try.ntmps14
  go_upto_region 3 with (first
    | (go_at_call 21; have HM2 := HM1; refine (rright_good _ (H'.out.fr hf0) HB.out HRB.out).mono ?_; rintro e w1 ⟨rfl, hf1⟩)
    | (go_at_call 21; refine (rright_good _ H.out HL.out HR.out).mono ?_; rintro e w0 ⟨rfl, hf0⟩; have HM1 := Lib.hid trivial))
  have hf01 := hf0.trans hf1
  have H1 := Lib.hid (H.out.fr hf01)
  have HF1 := Lib.hid hf01
  have hsz := hf01.size
  clear hf0 hf1 hf01 HM1 HM2
  go_cut [7] (fun o wx => Hid (wx.ownsRow w.heap.size 9 1 o l.length (strs l)) ∧ Hid (Fr w wx))
  case first =>
    rcases H1.out.src HZ.out with ⟨rfl, rfl⟩ | ⟨ad, c, rfl, hcells⟩
    · go_wp2_with (at_builtin; refine wpList_append_own_none rfl _ _ 22 rfl w.heap.size 9 i0 1 Try.underlying22 hi _ _ _ rfl (own_empty w1 _ hsz 9) rfl ?_)
      go_meet
      exact ⟨Lib.hid (own_empty w1 _ hsz 9), Lib.hid (HF1.out.trans (Fr.alloc _ _))⟩
    · have HC := Lib.hid (show ∀ j u, (strs l)[j]? = some u → (w1.alloc (.cells #[] 9)).cell? (ad.add j) = some u from fun j u hj => (Fr.alloc w1 _).cell (hcells j u hj))
      clear hcells
      go_wp2_with (at_builtin; refine wpList_append_own _ rfl _ _ 22 rfl w.heap.size 9 i0 (.string (S [])) 1 16 Try.underlying22 hi hz0 hz1 hz2 rfl (by decide) _ _ _ rfl (own_empty w1 _ hsz 9) ad l.length c (strs l) rfl (by rw [strs_len]; omega) HC.out (strs_one l) ?c3 ?c4 ?c5 ?_)
      case c3 => unfold maxLen; omega
      case c4 => omega
      case c5 => simp; omega
      intro v2 w4 hown4 hgrow _
      have hw4 := (HF1.out.trans (Fr.alloc w1 (.cells #[] 9))).grown hgrow (fun k hk => by
        simp only [Value.ownBlock, Option.some.injEq] at hk
        omega)
      have HW := Lib.hid hw4
      have HO := Lib.hid hown4
      clear hgrow hw4 hown4
      go_wp2_with fail
      go_meet
      exact ⟨HO, HW⟩
  case rest =>
    obtain ⟨HO, HF⟩ := hcut
    clear H1
    have hjl : ∀ k, (joinL l (b.take k)).length ≤ l.length + b.length := fun k => by
      have h1 := (List.length_filter_le (fun s => decide (s ∉ l)) (b.take k))
      have h2 : (b.take k).length ≤ b.length := by rw [List.length_take]; omega
      unfold joinL
      rw [List.length_append]
      omega
    have HJL := Lib.hid hjl
    clear hjl
    go_wp2_with fail
    go_loopw [7, 8, 9] (fun o p i wr => ∃ k : Nat, k ≤ b.length ∧ i = .int .i64 k ∧ Hid (wr.ownsRow w.heap.size 9 1 o (joinL l (b.take k)).length (strs (joinL l (b.take k)))) ∧ Hid (wr.ownsRow w.heap.size 3 1 p k ((jp l b k).map (Value.int .i64))) ∧ Hid (Fr w wr)) (fun _ _ i _ => b.length - (intOf i).toNat)
    case atStart => exact ⟨0, Nat.zero_le _, rfl, Lib.hid (by rw [List.take_zero, joinL_nil]; exact HO.out), Lib.hid ⟨by simp [jp], .inl ⟨rfl, rfl⟩⟩, HF⟩
    case round =>
      obtain ⟨k, hk, rfl, hO, hP, hF⟩ := hrel
      have hjl := HJL.out k
      obtain ⟨ja, jc, rfl⟩ := (Sl.own hO.out).len
      by_cases hlt : k < b.length
      · rcases (H'.out.fr hF.out) with ⟨hb0, _⟩ | ⟨B, o, c', hv, hc, _⟩
        · rw [hb0] at hlt; simp at hlt
        obtain ⟨rfl, rfl⟩ : bd = some ⟨B, o, none⟩ ∧ bc = c' := by simpa using hv
        have c1 := hc k hlt
        have HJ := Lib.hid (joinL_take_succ l b k hlt)
        have HJP := Lib.hid (jp_succ l b k hlt)
        have hsz3 := hF.out.size
        clear hc hv
        by_cases hm : b[k] ∈ l
        · obtain ⟨n, hn⟩ := pm_mem (i := 0) hm
          have HPJ := Lib.hid (pj_old (b := b) hn)
          have HPR := Lib.hid (show prt (joinL l (b.take k)) b[k] = (n : Int) from prt_some (by unfold joinL; rw [pm_pre hm, hn]))
          have HJ1 := Lib.hid (HJ.out.trans (if_pos hm))
          clear hm hn HJ
          generalize b[k] = s at *
          go_wp2_with (first
            | (go_at_call 23; refine (rprint_any s _ (Sl.own hO.out) (by omega)).mono ?_; rw [HPR.out]; rintro e w5 ⟨rfl, hf5⟩; have HO5 := Lib.hid (own_fr hO.out hf5); have HP5 := Lib.hid (own_fr hP.out hf5); have HF5 := Lib.hid (hF.out.trans hf5); have hsz5 := HF5.out.size)
            | (at_builtin; refine wpList_append_own _ rfl _ _ 23 rfl w.heap.size 3 j0 (.int .i64 0) 1 8 Try.underlying23 hj hy0 hy1 hy2 rfl (by decide) _ _ _ rfl (HP5.out.alloc _) ⟨w5.heap.size, 0, none⟩ 1 1 [.int .i64 (n : Int)] rfl rfl ?c1 ?c2 ?c3 ?c4 ?c5 ?_))
          case c1 =>
            intro j u hj
            match j, hj with
            | 0, hj => simp at hj; subst hj; simp [Addr.add]
          case c2 => intro u hu; simp at hu; subst hu; rfl
          case c3 => unfold maxLen; omega
          case c4 => omega
          case c5 => simp; omega
          intro p2 w6 hown6 hgrow _
          have HW := Lib.hid ((HF5.out.trans (Fr.alloc w5 (.cells #[.int .i64 (n : Int)] 3))).grown hgrow (fun k hk => (HP5.out.lt k hk).1))
          have HO6 := Lib.hid (own_other (HO5.out.alloc (.cells #[.int .i64 (n : Int)] 3)) (HP5.out.alloc _) (by decide) hgrow)
          have HP6 := Lib.hid hown6
          clear hgrow hown6 hf5 HO5 HP5 HF5 hsz5 c1
          go_wp2_with fail
          go_roundw
          case rel => exact ⟨k + 1, by omega, by go_num, Lib.hid (by rw [HJ1.out]; exact HO6.out), Lib.hid (by rw [HJP.out, HPJ.out, List.map_append]; exact HP6.out), HW⟩
          case measure => simp [intOf]; omega
        · have HPJ := Lib.hid (pj_new (a := l) HRB.out.1 hlt hm)
          have HPR := Lib.hid (show prt (joinL l (b.take k)) b[k] = -1 from prt_none (by
            rw [mem_joinL]
            rintro (h' | h')
            · exact hm h'
            · obtain ⟨i, hi, e⟩ := List.getElem_of_mem h'
              have hi' : i < k := by rw [List.length_take] at hi; omega
              rw [List.getElem_take] at e
              have := (List.getElem_inj HRB.out.1).1 e
              omega))
          have HJ1 := Lib.hid (HJ.out.trans (if_neg hm))
          clear hm HJ
          generalize b[k] = s at *
          go_wp2_with (first
            | (go_at_call 23; refine (rprint_any s _ (Sl.own hO.out) (by omega)).mono ?_; rw [HPR.out]; rintro e w5 ⟨rfl, hf5⟩; have HO5 := Lib.hid (own_fr hO.out hf5); have HP5 := Lib.hid (own_fr hP.out hf5); have HF5 := Lib.hid (hF.out.trans hf5); have hsz5 := HF5.out.size; have c2 := hf5.cell c1)
            | (at_builtin; refine wpList_append_own _ rfl _ _ 22 rfl w.heap.size 9 i0 (.string (S [])) 1 16 Try.underlying22 hi hz0 hz1 hz2 rfl (by decide) _ _ _ rfl (HO5.out.alloc _) ⟨w5.heap.size, 0, none⟩ 1 1 [.string (S s)] rfl rfl ?c1 ?c2 ?c3 ?c4 ?c5 ?_))
          case c1 =>
            intro j u hj
            match j, hj with
            | 0, hj => simp at hj; subst hj; simp [Addr.add]
          case c2 => intro u hu; simp at hu; subst hu; rfl
          case c3 => unfold maxLen; omega
          case c4 => omega
          case c5 => simp; omega
          intro o2 w6 hown6 hgrow _
          have HF6 := Lib.hid ((HF5.out.trans (Fr.alloc w5 (.cells #[.string (S s)] 9))).grown hgrow (fun k hk => (HO5.out.lt k hk).1))
          have HP6 := Lib.hid (own_other (HP5.out.alloc (.cells #[.string (S s)] 9)) (HO5.out.alloc _) (by decide) hgrow)
          have HO6 := Lib.hid hown6
          have hsz6 := HF6.out.size
          clear hgrow hown6 hf5 HO5 HP5 HF5 hsz5 c1 c2
          go_wp2_with (at_builtin; refine wpList_append_own _ rfl _ _ 23 rfl w.heap.size 3 j0 (.int .i64 0) 1 8 Try.underlying23 hj hy0 hy1 hy2 rfl (by decide) _ _ _ rfl (HP6.out.alloc _) ⟨w6.heap.size, 0, none⟩ 1 1 [.int .i64 ((joinL l (b.take k)).length : Int)] rfl rfl ?c1 ?c2 ?c3 ?c4 ?c5 ?_)
          case c1 =>
            intro j u hj
            match j, hj with
            | 0, hj => simp at hj; subst hj; simp [Addr.add]
          case c2 => intro u hu; simp at hu; subst hu; rfl
          case c3 => unfold maxLen; omega
          case c4 => omega
          case c5 => simp; omega
          intro p2 w7 hown7 hgrow _
          have HW := Lib.hid ((HF6.out.trans (Fr.alloc w6 (.cells #[.int .i64 ((joinL l (b.take k)).length : Int)] 3))).grown hgrow (fun k hk => (HP6.out.lt k hk).1))
          have HO7 := Lib.hid (own_other (HO6.out.alloc (.cells #[.int .i64 ((joinL l (b.take k)).length : Int)] 3)) (HP6.out.alloc _) (by decide) hgrow)
          have HP7 := Lib.hid hown7
          clear hgrow hown7 HO6 HP6 HF6 hsz6
          go_wp2_with fail
          go_roundw
          case rel =>
            refine ⟨k + 1, by omega, by go_num, Lib.hid ?_, Lib.hid (by rw [HJP.out, HPJ.out, List.map_append]; exact HP7.out), HW⟩
            rw [HJ1.out, strs_app, List.length_append]
            exact HO7.out
          case measure => simp [intOf]; omega
      · obtain rfl : k = b.length := by omega
        have HIJ := Lib.hid (Il.own hP.out)
        have hJ2 : (joinL l (b.take b.length)) = joinL l b := by rw [List.take_length]
        have HSJ := Lib.hid (show Sl wr (.slice ja (joinL l b).length jc) (joinL l b) by
          have := Sl.own hO.out
          rw [hJ2] at this
          exact this)
        have HT : Hid (tot (joinL l b) ≤ 4611686018427387904) := Lib.hid (by
          unfold joinL
          rw [tot_append]
          have h1 := tot_filter (fun s => decide (s ∉ l)) b
          have h2 := HL.out.2
          have h3 := HB.out.2
          omega)
        have hjl2 : (joinL l b).length ≤ l.length + b.length := by rw [← hJ2]; exact hjl
        rw [hJ2]
        clear hJ2
        by_cases hbig : tot (joinL l b) ≤ 1048576
        · have HJO := Lib.hid (show joinO l b = (joinL l b, b.map (fun s => (pj l b s : Int)), 0) by unfold joinO; rw [if_pos ⟨HR.out, HRB.out⟩, if_pos hbig])
          go_wp2_with (go_at_call 27; refine (rbytes_big (l := joinL l b) _ HSJ.out (by omega) HT.out).mono ?_; rintro e w5 ⟨rfl, rfl⟩)
          go_ret3
          rw [HJO.out]
          refine ⟨_, _, rfl, HSJ.out, ?_, hF.out⟩
          have := HIJ.out
          unfold jp at this
          rw [List.take_length] at this
          exact this
        · have HJO := Lib.hid (show joinO l b = ([], [], 6) by unfold joinO; rw [if_pos ⟨HR.out, HRB.out⟩, if_neg hbig])
          go_wp2_with (go_at_call 27; refine (rbytes_big (l := joinL l b) _ HSJ.out (by omega) HT.out).mono ?_; rintro e w5 ⟨rfl, rfl⟩)
          go_ret3
          rw [HJO.out]
          exact ⟨_, _, rfl, .nil _ _ _, .nil _ _ _, hF.out⟩
theorem rjoin_any {v u : Value} {a b : List Txt} (w : World) (h : Sl w v a) (hz : Nz v) (ha : Ok a) (h' : Sl w u b) (hb : Ok b) :
    Calls Try.prog 14 #[v, u] w fun e w' => ∃ v' u', e = .returned (.tuple #[v', u', .int .i64 (joinO a b).2.2]) ∧ Sl w' v' (joinO a b).1 ∧ Il w' u' (joinO a b).2.1 ∧ Fr w w' := by
  obtain ⟨bd, bc, rfl⟩ := h'.len
  by_cases hr : Rt a
  · by_cases hr' : Rt b
    · exact rjoin_good w h hz ha hr h' hb hr'
    · have e1 : joinO a b = ([], [], 1) := by unfold joinO; rw [if_neg (fun h => hr' h.2)]
      rw [e1]
      exact (rjoin_bad2 w h ha hr h' hb hr').mono fun e w' ⟨he, hf⟩ => ⟨_, _, he, .nil _ _ _, .nil _ _ _, hf⟩
  · have e1 : joinO a b = ([], [], 1) := by unfold joinO; rw [if_neg (fun h => hr h.1)]
    rw [e1]
    exact (rjoin_bad1 w h ha hr).mono fun e w' ⟨he, hf⟩ => ⟨_, _, he, .nil _ _ _, .nil _ _ _, hf⟩
end Go.Proofs.Ythibdppjhfhomaa
