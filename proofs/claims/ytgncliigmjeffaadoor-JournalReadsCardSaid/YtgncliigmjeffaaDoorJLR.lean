/-
  The law JournalReads, walked.
-/
import Derived.Test.YtgncliigmjeffaaDoorJs
import Derived.Deep.CutBlock
namespace Go.Proofs.YtgncliigmjeffaaDoor
open Go.RowKit

/-- What the law's loop has read. -/
theorem got_len {s : List UInt8} {rs : List (List UInt8)} {rest : List UInt8} (h : s = Jm.forms rs ++ rest) : s.length = (Jm.forms rs).length + rest.length := by rw [h, List.length_append]
theorem ext_at {s : List UInt8} {a b : List UInt8} (h : s = a ++ b) (n : Nat) : (S s).extract a.length (a.length + n) = S (b.take n) := by
  rw [S_extract, h, List.drop_left]; congr 2; omega

theorem own_frb {w w' : World} {b base n : Nat} {v : Value} {xs : List Value} (h : Hid (w.ownsRow base 9 1 v n xs)) (hf : FrB b w w') (hb : b < base) : Hid (w'.ownsRow base 9 1 v n xs) :=
  Lib.hid (h.out.kept hf (.inr (fun e => by have := (h.out.lt b e).1; omega)))
/-- Where a form does not stand. -/
theorem not_at {s a q fm : List UInt8} (h : s = a ++ q) (hn : ∀ r, q ≠ fm ++ r) (_hl : a.length + fm.length ≤ s.length) : (S s).extract a.length (a.length + fm.length) ≠ S fm := by
  rw [ext_at h]
  intro e
  have e2 : q.take fm.length = fm := by
    have := congrArg (fun b => b.data.toList) e
    simpa [S] using this
  exact hn (q.drop fm.length) (by conv => lhs; rw [← List.take_append_drop fm.length q, e2])
theorem eq_S {a : ByteArray} {l : List UInt8} (h : a.toList = l) : a = S l := by
  rw [S_eta a, ← h]; congr 1; exact (toList_data a).symm
theorem is_at {s a fm r : List UInt8} (h : s = a ++ (fm ++ r)) : (S s).extract a.length (a.length + fm.length) = S fm := by
  rw [ext_at h, List.take_left]

set_option maxHeartbeats 4000000 in
set_option maxRecDepth 100000 in
theorem reads_law (s : List UInt8) (w : World) (ht : Tab w) (hs : s.length ≤ 9223372036854775807) : Calls Tryd.prog 6 #[.string (S s)] w fun e w' => e = .returned (.bool true) ∧ Fr w w' := by
  obtain ⟨i0, hi, hz0, hz1, hz2⟩ := info_parts infoStr
  go_enter Tryd.func6, Tryd.ntmps6
  go_wp2_with fail
  refine (jsmall_any w ht).mono ?_
  rintro e w1 ⟨rfl, hf1⟩
  by_cases h300 : 300 < s.length
  · go_wp2_with fail
    go_ret
    exact ⟨rfl, hf1⟩
  have HF1 := Lib.hid hf1
  clear hf1
  go_wp2_with fail
  refine (q_new w1).mono ?_
  rintro e w2 ⟨B, O2, rfl, hd2, hs2⟩
  have HD2 := Lib.hid hd2
  have HN2 := Lib.hid ((New.refl w1).step hs2)
  clear hd2 hs2
  go_wp2_with fail
  refine (q_put (f := 7) HD2.out (by decide) s (by simp; omega)).mono ?_
  rintro e w3 ⟨O3, rfl, hd3, hs3⟩
  have HD3 := Lib.hid hd3
  have HN3 := Lib.hid (HN2.out.step hs3)
  clear hd3 hs3 HD2 HN2
  go_wp2_with fail
  refine (q_open (f := 7) HD3.out (by decide)).mono ?_
  rintro e w4 ⟨J, O4, rs, rest, hr, rfl, hj4, hs4⟩
  have hr' : Jm.Recs s rs rest := by rw [put_same, List.nil_append] at hr; exact hr
  have HR := Lib.hid hr'
  have HJ4 := Lib.hid hj4
  have HN4 := Lib.hid (HN3.out.step hs4)
  have hcnt := Jm.forms_count rs
  have hlen := got_len hr'.eq
  clear hr hj4 hs4 HD3 HN3 hr'
  obtain ⟨rv, hjn⟩ := HJ4.out.jn
  go_wp2_with fail
  refine (all_any hjn (by omega)).mono ?_
  rintro e w5 ⟨got, rfl, hrow, hf5⟩
  obtain ⟨Od, rvd, hdd, hsub, _⟩ := HJ4.out.disk
  have HG5 : Hid (Ro w5 Od got rs) := Lib.hid ⟨row_mono hrow (Nat.zero_le _), fun p hp ho => by
    have h1 := (hrow.lt p hp).1
    obtain ⟨sd, hsd, _⟩ := hdd
    have h2 := hsd.bound p ho
    omega⟩
  have HD5 := Lib.hid (hdd.fr hf5)
  have HN5 : Hid (New w1 w5 Od) := Lib.hid ⟨HN4.out.fr.trans hf5, fun k hk => HN4.out.up k (hsub k hk)⟩
  clear hjn hrow hf5 hdd hsub HJ4 HN4
  go_wp2_with fail
  refine (wopen_any s w5).mono ?_
  rintro e w6 ⟨rfl, hrd6, hf6⟩
  obtain ⟨b, hb⟩ : ∃ b, b = w5.heap.size := ⟨_, rfl⟩
  rw [← hb] at hrd6
  rw [← hb]
  have HB := Lib.hid hb
  have HRD6 := Lib.hid hrd6
  have HF6 := Lib.hid hf6
  clear hb hrd6 hf6
  go_upto_block 0 with fail
  go_cut [9, 10] (fun v n wx => ∃ qs q, n = .int .i64 ((Jm.forms qs).length : Nat) ∧ Hid (Jm.Recs s qs q) ∧ Hid (wx.ownsRow w6.heap.size 9 1 v qs.length (strs qs)) ∧ Hid (Fr w5 wx))
  case first =>
    go_wp2_with fail
    go_loopw [9, 10] (fun v n wr => ∃ (qs : List (List UInt8)) (q : List UInt8), Hid (s = Jm.forms qs ++ q ∧ Jm.Small qs) ∧ n = .int .i64 ((Jm.forms qs).length : Nat) ∧ Hid (wr.ownsRow w6.heap.size 9 1 v qs.length (strs qs)) ∧ Rd 103 b q false wr ∧ FrB b w6 wr) (fun _ n _ => s.length - (intOf n).toNat)
    case atStart => exact ⟨[], s, Lib.hid ⟨rfl, by intro r hr; simp at hr⟩, rfl, Lib.hid (World.ownsRow_nil _ _ _ _), HRD6.out, FrB.refl _ _⟩
    case round =>
      obtain ⟨qs, q, hx, rfl, hown, hrd, hfb⟩ := hrel
      have hql := got_len hx.out.1
      have htab : Tab wr := ((ht.fr (HF1.out.trans (HN5.out.fr.trans HF6.out)))).frb hfb (by rw [HB.out]; have := (ht.fr (HF1.out.trans HN5.out.fr)).lt; omega)
      have HT := Lib.hid htab
      clear htab
      go_wp2_with fail
      refine (left_any hrd).mono ?_
      rintro e wa ⟨rfl, rfl⟩
      by_cases hq0 : q.length = 0
      · obtain rfl := List.length_eq_zero_iff.1 hq0
        go_wp2_with fail
        go_meet
        exact ⟨qs, [], rfl, Lib.hid ⟨hx.out.1, hx.out.2, Jm.stops_nil⟩, hown, Lib.hid (FrB.to_fr HF6.out (by rw [HB.out]; exact Nat.le_refl _) hfb)⟩
      · have hb6 : b < w6.heap.size := HRD6.out.lt
        go_wp2_with fail
        refine (rText_any hrd (by omega)).mono ?_
        rintro e wb ⟨hg, hf⟩
        have hown := own_frb hown hf hb6
        have hfb := hfb.trans hf
        have HT := Lib.hid (HT.out.frb hf (by have := (ht.fr (HF1.out.trans HN5.out.fr)).lt; rw [HB.out]; omega))
        clear hf
        rcases hg with ⟨x, q2, hxd, he2, rfl, hrd⟩ | ⟨hxn, rfl, hrd⟩
        · have hl2 := rest_le he2
          have hlx : x.length ≤ 300 := by
            have h1 := congrArg List.length he2
            rw [List.length_append, Wm.textE_f] at h1
            simp at h1; omega
          have HE2 := Lib.hid he2
          have HXD := Lib.hid hxd
          clear he2 hxd
          go_wp2_with fail
          refine (rNum_any hrd (by omega)).mono ?_
          rintro e wc ⟨hg, hf⟩
          have hown := own_frb hown hf hb6
          have hfb := hfb.trans hf
          have HT := Lib.hid (HT.out.frb hf (by have := (ht.fr (HF1.out.trans HN5.out.fr)).lt; rw [HB.out]; omega))
          clear hf
          rcases hg with ⟨n, q3, hnd, he3, rfl, hrd⟩ | ⟨hnn, rfl, hrd⟩
          · obtain ⟨n, rfl⟩ : ∃ m : Nat, n = m := ⟨n.toNat, by have := hnd.1; omega⟩
            have hn1 := hnd.2
            have HE3 := Lib.hid he3
            have HND := Lib.hid hnd
            clear he3 hnd
            have hl1 := Jm.text_len x (by omega)
            have hl2 : ((Wm.numE 59).f (n : Int)).length ≤ 25 := Jm.num_len n (by omega)
            go_wp2_with fail
            refine (text_any x _ (by omega) HT.out).mono ?_
            rintro e wd ⟨rfl, hfd⟩
            have hown := own_frb hown (hfd.frb b) hb6
            have hfb := hfb.trans (hfd.frb b)
            have hrd := hrd.fr hfd
            have HT := Lib.hid (HT.out.fr hfd)
            clear hfd
            go_wp2_with fail
            refine (num_any (n : Int) _ (by omega) (by omega) HT.out).mono ?_
            rintro e we ⟨rfl, hfe⟩
            have hown := own_frb hown (hfe.frb b) hb6
            have hfb := hfb.trans (hfe.frb b)
            have hrd := hrd.fr hfe
            clear hfe
            go_upto_region 21 with fail
            rw [S_append]
            obtain ⟨fm, hfm⟩ : ∃ fm, fm = Wm.textE.f x ++ (Wm.numE 59).f (n : Int) := ⟨_, rfl⟩
            rw [← hfm]
            have hfl : fm.length = (Wm.textE.f x).length + ((Wm.numE 59).f (n : Int)).length := by rw [hfm, List.length_append]
            have HFM := Lib.hid hfm
            clear hfm
            by_cases hns : n = Jm.sum x
            · subst hns
              have hin : q = fm ++ q3 := by rw [HE2.out, HE3.out, HFM.out, List.append_assoc]
              have hle : (Jm.forms qs).length + fm.length ≤ s.length := by rw [hx.out.1, hin]; simp [List.length_append]
              have hle' : ¬ ((s.length : Int) < ((Jm.forms qs).length : Int) + (fm.length : Int)) := by omega
              have hexl : ((S s).extract (Jm.forms qs).length ((Jm.forms qs).length + fm.length)).toList = fm := by rw [is_at (r := q3) (by rw [← hin]; exact hx.out.1)]; exact S_toList fm
              have hcn := Jm.forms_count qs
              have hsz6 := World.grownBy.size hfb
              have HQL := Lib.hid hql
              have HLE := Lib.hid hlen
              clear hin hfl hql hlen
              go_wp2_with fail
              refine (sum_any x _ (by omega)).mono ?_
              rintro e wf ⟨rfl, rfl⟩
              have hlt3 := fun k hk => (hown.out.lt k hk).1
              go_wp2_with (at_builtin; refine wpList_append_own _ rfl _ _ 46 rfl w6.heap.size 9 i0 (.string (S [])) 1 16 Tryd.underlying46 hi hz0 hz1 hz2 rfl (by decide) _ _ _ rfl (hown.out.alloc _) ⟨wf.heap.size, 0, none⟩ 1 1 [.string (S x)] rfl rfl ?c1 ?c2 ?c3 ?c4 ?c5 ?_)
              case c1 =>
                intro j u hj
                match j, hj with
                | 0, hj => simp at hj; subst hj; simp [Addr.add]
              case c2 => intro u hu; simp at hu; subst hu; rfl
              case c3 => unfold maxLen; omega
              case c4 => omega
              case c5 => simp; omega
              intro v' w7 hown7 hgrow _
              have hrd7 := (hrd.fr (Fr.alloc wf (.cells #[.string (S x)] 9))).grown hgrow (fun e => by have := hlt3 b e.symm; omega)
              have hfb7 := (hfb.alloc (.cells #[.string (S x)] 9)).grown hgrow hlt3
              have hq7 : q = Jm.formE.f x ++ q3 := Jm.goes HE2.out HE3.out rfl
              have hx7 := read_more hx (by omega) hq7
              have hown7 : Hid (w7.ownsRow w6.heap.size 9 1 v' (qs ++ [x]).length (strs (qs ++ [x]))) := Lib.hid (by rw [List.length_append, strs_snoc]; exact hown7)
              have hff : ((Jm.forms (qs ++ [x])).length : Int) = ((Jm.forms qs).length : Int) + (fm.length : Int) := by rw [Jm.forms_snoc, HFM.out, List.length_append]; exact Int.natCast_add _ _
              have hf0 : 0 < fm.length := by have := Jm.form_two x; rw [HFM.out]; rw [Jm.formE_f] at this; omega
              have HFF := Lib.hid hff
              clear hown hgrow hlt3 hrd hfb hx HE2 HE3 hff hq7 hexl
              go_wp2_with fail
              go_roundw
              case rel => exact ⟨qs ++ [x], q3, hx7, by rw [HFF.out], hown7, hrd7, hfb7⟩
              case measure =>
                have hff := HFF.out
                simp [intOf]; omega
            · have hne : ((n : Int) != (Jm.sum x : Int)) = true := bne_iff_ne.2 (by omega)
              go_wp2_with fail
              refine (sum_any x _ (by omega)).mono ?_
              rintro e wf ⟨rfl, rfl⟩
              go_wp2_with fail
              go_meet
              exact ⟨qs, q, rfl, Lib.hid ⟨hx.out.1, hx.out.2, Jm.stops_sum HE2.out HXD.out HE3.out HND.out (.inr (by omega))⟩, hown, Lib.hid (FrB.to_fr HF6.out (by rw [HB.out]; exact Nat.le_refl _) hfb)⟩
          · have HN3 := Lib.hid hnn
            clear hnn
            have HST := Lib.hid (Jm.stops_num HE2.out HXD.out HN3.out)
            have hl1 := Jm.text_len x (by omega)
            have hl2 : ((Wm.numE 59).f 0).length ≤ 25 := Jm.num_len 0 (by omega)
            go_wp2_with fail
            refine (text_any x _ (by omega) HT.out).mono ?_
            rintro e wd ⟨rfl, hfd⟩
            have hown := own_frb hown (hfd.frb b) hb6
            have hfb := hfb.trans (hfd.frb b)
            have hrd := hrd.fr hfd
            have HT := Lib.hid (HT.out.fr hfd)
            clear hfd
            go_wp2_with fail
            refine (num_any 0 _ (by omega) (by omega) HT.out).mono ?_
            rintro e we ⟨rfl, hfe⟩
            have hown := own_frb hown (hfe.frb b) hb6
            have hfb := hfb.trans (hfe.frb b)
            have hrd := hrd.fr hfe
            clear hfe
            go_upto_region 21 with fail
            rw [S_append]
            obtain ⟨fm, hfm⟩ : ∃ fm, fm = Wm.textE.f x ++ (Wm.numE 59).f 0 := ⟨_, rfl⟩
            rw [← hfm]
            have hfl : fm.length = (Wm.textE.f x).length + ((Wm.numE 59).f 0).length := by rw [hfm, List.length_append]
            have HFM := Lib.hid hfm
            clear hfm
            have hno : ∀ r, q ≠ fm ++ r := fun r e => by
              rw [HE2.out, HFM.out, List.append_assoc] at e
              exact HN3.out 0 r ⟨by decide, by decide⟩ (List.append_cancel_left e)
            have HNO := Lib.hid hno
            clear hno
            by_cases hns : 0 = Jm.sum x
            · have hns' : ((0 : Int) != (Jm.sum x : Int)) = false := by rw [← hns]; rfl
              clear hns
              have hfb9 : fm.length ≤ 400 := by omega
              have hqb : (Jm.forms qs).length ≤ 300 := by omega
              have HFL := Lib.hid hfl
              have HQL := Lib.hid hql
              have HLE := Lib.hid hlen
              clear hfl hql hlen
              by_cases hgt : s.length < (Jm.forms qs).length + fm.length
              · have hgt' : (s.length : Int) < ((Jm.forms qs).length : Int) + (fm.length : Int) := by omega
                go_wp2_with fail
                refine (sum_any x _ (by omega)).mono ?_
                rintro e wf ⟨rfl, rfl⟩
                go_wp2_with fail
                go_meet
                exact ⟨qs, q, rfl, Lib.hid ⟨hx.out.1, hx.out.2, HST.out⟩, hown, Lib.hid (FrB.to_fr HF6.out (by rw [HB.out]; exact Nat.le_refl _) hfb)⟩
              · have hle' : ¬ ((s.length : Int) < ((Jm.forms qs).length : Int) + (fm.length : Int)) := by omega
                have hexl : (((S s).extract (Jm.forms qs).length ((Jm.forms qs).length + fm.length)).toList == fm) = false := beq_eq_false_iff_ne.2 (fun e => not_at hx.out.1 HNO.out (by omega) ((eq_S e)))
                go_wp2_with fail
                refine (sum_any x _ (by omega)).mono ?_
                rintro e wf ⟨rfl, rfl⟩
                go_wp2_with fail
                go_meet
                exact ⟨qs, q, rfl, Lib.hid ⟨hx.out.1, hx.out.2, HST.out⟩, hown, Lib.hid (FrB.to_fr HF6.out (by rw [HB.out]; exact Nat.le_refl _) hfb)⟩
            · have hne : ((0 : Int) != (Jm.sum x : Int)) = true := bne_iff_ne.2 (by omega)
              clear hns
              have HFL := Lib.hid hfl
              clear hfl
              go_wp2_with fail
              refine (sum_any x _ (by omega)).mono ?_
              rintro e wf ⟨rfl, rfl⟩
              go_wp2_with fail
              go_meet
              exact ⟨qs, q, rfl, Lib.hid ⟨hx.out.1, hx.out.2, HST.out⟩, hown, Lib.hid (FrB.to_fr HF6.out (by rw [HB.out]; exact Nat.le_refl _) hfb)⟩
        · have HN2 := Lib.hid hxn
          clear hxn
          have HST := Lib.hid (Jm.stops_text HN2.out)
          go_wp2_with fail
          refine (rNum_any hrd (by simp)).mono ?_
          rintro e wc ⟨hg, hf⟩
          have hown := own_frb hown hf hb6
          have hfb := hfb.trans hf
          have HT := Lib.hid (HT.out.frb hf (by have := (ht.fr (HF1.out.trans HN5.out.fr)).lt; rw [HB.out]; omega))
          clear hf
          rcases hg with ⟨n, q3, hnd, he3, rfl, hrd⟩ | ⟨hnn, rfl, hrd⟩
          · exfalso
            have := congrArg List.length he3
            rw [Wm.numE_f] at this
            simp at this
          · clear hnn
            have hl1 : (Wm.textE.f []).length ≤ 26 := Jm.text_len [] (by simp)
            have hl2 : ((Wm.numE 59).f 0).length ≤ 25 := Jm.num_len 0 (by omega)
            go_wp2_with fail
            refine (text_any [] _ (by simp) HT.out).mono ?_
            rintro e wd ⟨rfl, hfd⟩
            have hown := own_frb hown (hfd.frb b) hb6
            have hfb := hfb.trans (hfd.frb b)
            have hrd := hrd.fr hfd
            have HT := Lib.hid (HT.out.fr hfd)
            clear hfd
            go_wp2_with fail
            refine (num_any 0 _ (by omega) (by omega) HT.out).mono ?_
            rintro e we ⟨rfl, hfe⟩
            have hown := own_frb hown (hfe.frb b) hb6
            have hfb := hfb.trans (hfe.frb b)
            have hrd := hrd.fr hfe
            clear hfe
            go_upto_region 21 with fail
            rw [S_append]
            obtain ⟨fm, hfm⟩ : ∃ fm, fm = Wm.textE.f [] ++ (Wm.numE 59).f 0 := ⟨_, rfl⟩
            rw [← hfm]
            have hfl : fm.length = (Wm.textE.f []).length + ((Wm.numE 59).f 0).length := by rw [hfm, List.length_append]
            have HFM := Lib.hid hfm
            clear hfm
            have hno : ∀ r, q ≠ fm ++ r := fun r e => by
              rw [HFM.out, List.append_assoc] at e
              exact HN2.out [] _ (by show ([] : List UInt8).length ≤ _; simp) e
            have HNO := Lib.hid hno
            clear hno
            have hns' : ((0 : Int) != (Jm.sum [] : Int)) = false := rfl
            have hfb9 : fm.length ≤ 400 := by omega
            have hqb : (Jm.forms qs).length ≤ 300 := by omega
            have HFL := Lib.hid hfl
            have HQL := Lib.hid hql
            have HLE := Lib.hid hlen
            clear hfl hql hlen
            by_cases hgt : s.length < (Jm.forms qs).length + fm.length
            · have hgt' : (s.length : Int) < ((Jm.forms qs).length : Int) + (fm.length : Int) := by omega
              go_wp2_with fail
              refine (sum_any [] _ (by simp)).mono ?_
              rintro e wf ⟨rfl, rfl⟩
              go_wp2_with fail
              go_meet
              exact ⟨qs, q, rfl, Lib.hid ⟨hx.out.1, hx.out.2, HST.out⟩, hown, Lib.hid (FrB.to_fr HF6.out (by rw [HB.out]; exact Nat.le_refl _) hfb)⟩
            · have hle' : ¬ ((s.length : Int) < ((Jm.forms qs).length : Int) + (fm.length : Int)) := by omega
              have hexl : (((S s).extract (Jm.forms qs).length ((Jm.forms qs).length + fm.length)).toList == fm) = false := beq_eq_false_iff_ne.2 (fun e => not_at hx.out.1 HNO.out (by omega) ((eq_S e)))
              go_wp2_with fail
              refine (sum_any [] _ (by simp)).mono ?_
              rintro e wf ⟨rfl, rfl⟩
              go_wp2_with fail
              go_meet
              exact ⟨qs, q, rfl, Lib.hid ⟨hx.out.1, hx.out.2, HST.out⟩, hown, Lib.hid (FrB.to_fr HF6.out (by rw [HB.out]; exact Nat.le_refl _) hfb)⟩

  case rest =>
    obtain ⟨qs, q, rfl, hrq, hwant, hfx⟩ := hcut
    obtain ⟨rfl, rfl⟩ := HR.out.unique hrq.out
    obtain ⟨F, hF⟩ : ∃ F, F = put (put (fun _ => ([] : List UInt8)) 7 ([] ++ s)) 7 (Jm.forms rs) := ⟨_, rfl⟩
    obtain ⟨fl, hfl⟩ : ∃ fl, fl = Jm.forms rs := ⟨_, rfl⟩
    have hF7 : F 7 = fl := by rw [hF, put_same, hfl]
    have hdc : QD wc Od B F := by rw [hF]; exact HD5.out.fr hfx.out
    have hfn : fl.length ≤ 300 := by rw [hfl]; omega
    have hwo : Hid (Ro wc Od u9 rs) := Lib.hid ⟨row_mono hwant.out (Nat.zero_le _), fun p hp ho => by
      have h1 := (hwant.out.lt p hp).1
      obtain ⟨sd, hsd, _⟩ := HD5.out
      have h2 := hsd.bound p ho
      have h3 := HF6.out.size
      omega⟩
    have hgo := Lib.hid (HG5.out.fr hfx.out)
    have HNc : Hid (New w1 wc Od) := Lib.hid (HN5.out.step (.fr hfx.out))
    have HDc := Lib.hid hdc
    have HF7 := Lib.hid hF7
    have hext : ((S s).extract 0 fl.length).toList = fl := by
      have := ext_at (a := []) (s := s) (b := s) rfl fl.length
      rw [List.length_nil, Nat.zero_add] at this
      rw [this, S_toList, HR.out.eq, hfl, List.take_left]
    have hsl : (fl.length : Int) ≤ (s.length : Int) := by rw [hfl]; omega
    rw [← hfl]
    have HFL := Lib.hid hfl
    clear hF hF7 hdc hwant hfx hrq HD5 HG5 HN5 HRD6 HF6 hfl hlen hcnt
    go_wp2_with fail
    refine (q_size (f := 7) HDc.out (by decide)).mono ?_
    rintro e wa ⟨rfl, rfl⟩
    rw [HF7.out]
    go_wp2_with fail
    refine (q_read (f := 7) (n := fl.length) HDc.out (by decide) (by omega)).mono ?_
    rintro e wb ⟨rfl, hfb⟩
    rw [HF7.out, List.take_length]
    have HDb := Lib.hid (HDc.out.fr hfb)
    have hwb := Lib.hid (hwo.out.fr hfb)
    have hgb := Lib.hid (hgo.out.fr hfb)
    have HNb := Lib.hid (HNc.out.step (.fr hfb))
    clear hfb HDc hwo hgo HNc
    go_wp2_with fail
    refine (q_open (f := 7) HDb.out (by decide)).mono ?_
    rintro e wk ⟨K, OK, rs2, rest2, hr2, rfl, hjk, hsk⟩
    obtain ⟨rfl, rfl⟩ : rs = rs2 ∧ [] = rest2 := by
      rw [HF7.out, HFL.out] at hr2
      exact (Jm.Recs.all HR.out.small).unique hr2
    have HJk := Lib.hid hjk
    have hwk := Lib.hid (hwb.out.step hsk)
    have hgk := Lib.hid (hgb.out.step hsk)
    have HNk := Lib.hid (HNb.out.step hsk)
    obtain ⟨Ok, rvk, hdk, _⟩ := hjk.disk
    have hdk' : QD wk Ok B (put F 7 fl) := by rw [HFL.out]; exact hdk
    have HDk := Lib.hid hdk'
    clear hr2 hjk hsk hdk hdk' HDb hwb hgb HNb
    go_wp2_with fail
    refine (q_size (f := 7) HDk.out (by decide)).mono ?_
    rintro e wl ⟨rfl, rfl⟩
    rw [put_same]
    go_wp2_with fail
    refine (q_read (f := 7) (n := fl.length) HDk.out (by decide) (by omega)).mono ?_
    rintro e wm ⟨rfl, hfm⟩
    rw [put_same, List.take_length]
    have hwm := Lib.hid (hwk.out.fr hfm)
    have hgm := Lib.hid (hgk.out.fr hfm)
    have HNm := Lib.hid (HNk.out.step (.fr hfm))
    have HJm := Lib.hid (HJk.out.fr hfm)
    clear hfm hwk hgk HNk HJk HDk
    go_wp2_with fail
    have hrl : rs.length ≤ 300 := by
      have := Jm.forms_count rs
      rw [← HFL.out] at this; omega
    refine (sameTexts_any got u9 rs wm hgm.out.row.isSl hwm.out.row.isSl (by omega)).mono ?_
    rintro e wn ⟨rfl, hfn9⟩
    have hwn := Lib.hid (hwm.out.fr hfn9)
    have HNn := Lib.hid (HNm.out.step (.fr hfn9))
    have HJn := Lib.hid (HJm.out.fr hfn9)
    clear hfn9 hwm hgm HNm HJm
    obtain ⟨rvn, hjn⟩ := HJn.out.jn
    go_wp2_with fail
    refine (all_any hjn (by omega)).mono ?_
    rintro e wo ⟨v, rfl, hrow, hfo⟩
    have hwv := Lib.hid (row_mono hrow (Nat.zero_le _) : Row wo v rs)
    have hwo := Lib.hid (hwn.out.fr hfo)
    have HNo := Lib.hid (HNn.out.step (.fr hfo))
    clear hrow hfo hjn hwn HNn HJn
    go_wp2_with fail
    refine (sameTexts_any v u9 rs wo (Row.isSl hwv.out) hwo.out.row.isSl (by omega)).mono ?_
    rintro e wp ⟨rfl, hfp⟩
    have HNp := Lib.hid (HNo.out.step (.fr hfp))
    clear hfp hwv hwo HNo
    go_wp2_with fail
    go_ret
    exact ⟨rfl, HF1.out.trans HNp.out.fr⟩
end Go.Proofs.YtgncliigmjeffaaDoor
