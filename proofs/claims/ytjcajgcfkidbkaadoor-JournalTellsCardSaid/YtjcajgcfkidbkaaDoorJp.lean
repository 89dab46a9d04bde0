/-
  Contracts: journal.Sum, form and read.
-/
import Derived.Test.YtjcajgcfkidbkaaDoorSame
import Derived.Test.YtjcajgcfkidbkaaDoorJm
import Derived.WalkMore
import Derived.Laws.OwnMore
namespace Go.Proofs.YtjcajgcfkidbkaaDoor
open Go.RowKit

set_option maxHeartbeats 1000000 in
set_option maxRecDepth 100000 in
theorem sum_any (l : List UInt8) (w : World) (h : l.length ≤ 1099511627776) :
    Calls Tryd.prog 14 #[.string (S l)] w fun e w' => e = .returned (.int .i64 (Jm.sum l : Nat)) ∧ w' = w := by
  go_enter Tryd.func14, Tryd.ntmps14
  go_wp2_with fail
  go_loop [3, 7] (fun s i => ∃ k : Nat, k ≤ l.length ∧ i = .int .i64 k ∧ s = .int .i64 (Jm.sumTo l k : Nat)) (fun _ i => l.length - (intOf i).toNat)
  case atStart => exact ⟨0, Nat.zero_le _, rfl, rfl⟩
  case round =>
    obtain ⟨k, hk, rfl, rfl⟩ := hrel
    by_cases hlt : k < l.length
    · have hs := Jm.sumTo_lt l k
      have hb : (l[k]).toNat ≤ 255 := Nat.le_of_lt_succ (UInt8.toNat_lt _)
      have hstep : (Jm.sumTo l (k + 1) : Int) = ((Jm.sumTo l k : Int) + ((k : Int) + 1) * ((l[k]).toNat : Int)) % 2147483647 := by
        rw [Jm.sumTo, List.getD_eq_getElem?_getD, List.getElem?_eq_getElem hlt, Option.getD_some, Int.natCast_emod, Int.natCast_add, Int.natCast_mul, Int.natCast_add]; rfl
      have hm0 : 0 ≤ ((k : Int) + 1) * ((l[k]).toNat : Int) := Int.mul_nonneg (by omega) (by omega)
      have hm1 : ((k : Int) + 1) * ((l[k]).toNat : Int) ≤ 1099511627776 * 255 := Int.mul_le_mul (by omega) (by omega) (by omega) (by omega)
      have HS := Lib.hid hstep
      clear hstep
      go_wp2_with fail
      go_round
      case rel =>
        refine ⟨k + 1, by omega, by go_num, ?_⟩
        rw [HS.out]
      case measure => simp [intOf]; omega
    · go_wp2_with fail
      go_ret
      obtain rfl : k = l.length := by omega
      exact ⟨rfl, rfl⟩

set_option maxRecDepth 100000 in
theorem form_any (l : List UInt8) (w : World) (h : l.length ≤ 1099511627776) (ht : Tab w) :
    Calls Tryd.prog 53 #[.string (S l)] w fun e w' => e = .returned (.string (S (Jm.formE.f l))) ∧ Fr w w' := by
  have hs := Jm.sum_lt l
  have hl1 := Jm.text_len l h
  have hl2 := Jm.num_len (Jm.sum l) (by omega)
  go_enter Tryd.func53, Tryd.ntmps53
  go_wp2_with fail
  refine (text_any l _ (by omega) ht).mono ?_
  rintro e w1 ⟨rfl, hf1⟩
  go_wp2_with fail
  refine (sum_any l _ h).mono ?_
  rintro e w2 ⟨rfl, rfl⟩
  go_wp2_with fail
  refine (num_any _ _ (by omega) (by omega) (ht.fr hf1)).mono ?_
  rintro e w3 ⟨rfl, hf3⟩
  go_wp2_with fail
  go_ret
  exact ⟨ret_str (S_append _ _), hf1.trans hf3⟩

set_option maxRecDepth 100000 in
theorem infoStr : (Tryd.prog.info? 9).map (fun i => (i.zero, i.size, i.bytes)) = some (some (.string (S [])), 1, 16) := by kernel_rfl
/-- Strings, as values. -/
def strs (rs : List (List UInt8)) : List Value := rs.map (fun z => .string (S z))
theorem strs_len (rs : List (List UInt8)) : (strs rs).length = rs.length := by simp [strs]
theorem strs_snoc (rs : List (List UInt8)) (r : List UInt8) : strs (rs ++ [r]) = strs rs ++ [.string (S r)] := by simp [strs]

theorem FrB.to_fr {b : Nat} {w w1 w2 : World} (h : Fr w w1) (hb : w.heap.size ≤ b) (k : FrB b w1 w2) : Fr w w2 :=
  ⟨k.os.trans h.os, k.tape.trans h.tape, k.output.trans h.output, Nat.le_trans h.size (World.grownBy.size k), fun i hi _ => (World.grownBy.block k i (Nat.lt_of_lt_of_le hi h.size) (by simp; omega)).trans (World.grownBy.block h i hi (by simp))⟩

theorem row_mono {w : World} {base base' e size n : Nat} {v : Value} {xs : List Value} (h : w.ownsRow base e size v n xs) (hb : base' ≤ base) : w.ownsRow base' e size v n xs := by
  refine ⟨h.1, ?_⟩
  rcases h.2 with hn | ⟨g, cap, cur, e1, hbase, rest⟩
  · exact .inl hn
  · exact .inr ⟨g, cap, cur, e1, Nat.le_trans hb hbase, rest⟩
theorem FrB.grown {b : Nat} {w x y : World} {row : Option Nat} (h : FrB b w x) (hg : x.grownBy y row) (hr : ∀ k, row = some k → w.heap.size ≤ k) : FrB b w y :=
  World.grownBy.andThen h hg (fun j hj => .inl (hr j hj))
theorem FrB.alloc {b : Nat} {w x : World} (h : FrB b w x) (o : Obj) : FrB b w (x.alloc o) := h.trans ((Fr.alloc x o).frb b)
theorem Rd.grown {T b : Nat} {r : List UInt8} {f : Bool} {x y : World} {row : Option Nat} (h : Rd T b r f x) (hg : x.grownBy y row) (hr : some b ≠ row) : Rd T b r f y := by
  unfold Rd at h ⊢; rw [World.grownBy.block hg b (Array.getElem?_eq_some_iff.1 h).1 hr]; exact h

theorem read_end {s rest : List UInt8} {rs : List (List UInt8)} {v : Value} {w w1 wx : World} {b : Nat} (hx : Hid (s = Jm.forms rs ++ rest ∧ Jm.Small rs)) (hown : Hid (wx.ownsRow w1.heap.size 9 1 v rs.length (strs rs)))
    (hb : Hid (b = w.heap.size)) (hf1 : Hid (Fr w w1)) (hfb : FrB b w1 wx) (hst : Jm.Stops rest) :
    ∃ v' rs' rest', Ending.returned (.tuple #[v, .int .i64 ((Jm.forms rs).length : Nat)]) = .returned (.tuple #[v', .int .i64 ((Jm.forms rs').length : Nat)]) ∧ Jm.Recs s rs' rest' ∧ wx.ownsRow w.heap.size 9 1 v' rs'.length (strs rs') ∧ Fr w wx :=
  ⟨v, rs, rest, rfl, ⟨hx.out.1, hx.out.2, hst⟩, row_mono hown.out hf1.out.size, FrB.to_fr hf1.out (by rw [hb.out]; exact Nat.le_refl _) hfb⟩
theorem read_more {s rest r3 x : List UInt8} {rs : List (List UInt8)} (hx : Hid (s = Jm.forms rs ++ rest ∧ Jm.Small rs)) (h1 : x.length ≤ 20000) (h2 : rest = Jm.formE.f x ++ r3) : Hid (s = Jm.forms (rs ++ [x]) ++ r3 ∧ Jm.Small (rs ++ [x])) :=
  Lib.hid ⟨by rw [hx.out.1, h2, Jm.forms_snoc, List.append_assoc], fun r hr => by
    rcases List.mem_append.1 hr with h | h
    · exact hx.out.2 r h
    · rw [List.mem_singleton.1 h]; exact h1⟩

set_option maxHeartbeats 4000000 in
set_option maxRecDepth 100000 in
theorem jread_any (s : List UInt8) (w : World) (hs : s.length ≤ 16777216) :
    Calls Tryd.prog 47 #[.string (S s)] w fun e w' => ∃ v rs rest, e = .returned (.tuple #[v, .int .i64 ((Jm.forms rs).length : Nat)]) ∧ Jm.Recs s rs rest ∧ w'.ownsRow w.heap.size 9 1 v rs.length (strs rs) ∧ Fr w w' := by
  obtain ⟨i0, hi, hz0, hz1, hz2⟩ := info_parts infoStr
  go_enter Tryd.func47, Tryd.ntmps47
  go_wp2_with fail
  go_step3
  go_wp2_with fail
  refine (wopen_any s w).mono ?_
  rintro e w1 ⟨rfl, hrd1, hf1⟩
  have hlt1 := hrd1.lt
  obtain ⟨b, hb⟩ : ∃ b, b = w.heap.size := ⟨_, rfl⟩
  rw [← hb] at hrd1 hlt1
  have HB := Lib.hid hb
  have HF1 := Lib.hid hf1
  rw [← hb]
  clear hb hf1
  go_wp2_with fail
  go_step3
  go_wp2_with fail
  go_loopw [4, 5] (fun v n wr => ∃ (rs : List (List UInt8)) (rest : List UInt8), Hid (s = Jm.forms rs ++ rest ∧ Jm.Small rs) ∧ n = .int .i64 ((Jm.forms rs).length : Nat) ∧ Hid (wr.ownsRow w1.heap.size 9 1 v rs.length (strs rs)) ∧ Rd 103 b rest false wr ∧ FrB b w1 wr) (fun _ n _ => s.length - (intOf n).toNat)
  case atStart => exact ⟨[], s, Lib.hid ⟨rfl, by intro r hr; simp at hr⟩, rfl, Lib.hid (World.ownsRow_nil _ _ _ _), hrd1, FrB.refl _ _⟩
  case round =>
    obtain ⟨rs, rest, hx, rfl, hown, hrd, hfb⟩ := hrel
    clear hrd1
    have hlen : s.length = (Jm.forms rs).length + rest.length := by rw [hx.out.1, List.length_append]
    go_wp2_with fail
    refine (rText_any hrd (by omega)).mono ?_
    rintro e w2 ⟨hg, hf2⟩
    have hown2 := Lib.hid (hown.out.kept hf2 (.inr (fun e => by have := (hown.out.lt b e).1; omega)))
    have hfb2 := hfb.trans hf2
    clear hown hfb hf2 hrd
    rcases hg with ⟨x, r2, hxd, he2, rfl, hrd2⟩ | ⟨hxn, rfl, hrd2⟩
    · have hl2 := rest_le he2
      have HE2 := Lib.hid he2
      have HXD := Lib.hid hxd
      clear he2 hxd
      go_wp2_with fail
      refine (rNum_any hrd2 (by omega)).mono ?_
      rintro e w3 ⟨hg, hf3⟩
      have hown3 := Lib.hid (hown2.out.kept hf3 (.inr (fun e => by have := (hown2.out.lt b e).1; omega)))
      have hfb3 := hfb2.trans hf3
      clear hown2 hfb2 hf3 hrd2
      rcases hg with ⟨n, r3, hnd, he3, rfl, hrd3⟩ | ⟨hnn, rfl, hrd3⟩
      · have hl3 := rest_le he3
        have HE3 := Lib.hid he3
        have HND := Lib.hid hnd
        clear he3 hnd
        go_wp2_with fail
        refine (left_any hrd3).mono ?_
        rintro e w4 ⟨rfl, rfl⟩
        have hgo : (r3.length = 0 ∧ r3 = []) ∨ ¬ r3.length = 0 := by
          by_cases h : r3.length = 0
          · exact .inl ⟨h, List.length_eq_zero_iff.1 h⟩
          · exact .inr h
        have hch : 20000 < x.length ∨ (x.length ≤ 20000 ∧ n ≠ (Jm.sum x : Int)) ∨ (x.length ≤ 20000 ∧ n = (Jm.sum x : Int)) := by omega
        rcases hgo with ⟨h0, hnil⟩ | h0
        · subst hnil
          go_wp2_with fail
          refine (done_any hrd3).mono ?_
          rintro e w5 ⟨rfl, rfl⟩
          rcases hch with hch | ⟨hch, hne⟩ | ⟨hch, heq⟩
          · go_wp2_with fail
            try rw [Exit.noGoto_ret]
            refine bodyPost_ret ?_ rfl (read_end hx hown3 HB HF1 hfb3 (Jm.stops_sum HE2.out HXD.out HE3.out HND.out (.inl hch)))
            simp [results, Tryd.results47, go_sem]
          · have hb1 : ((n != (Jm.sum x : Int)) : Bool) = true := bne_iff_ne.2 hne
            go_wp2_with fail
            refine (sum_any x _ (by omega)).mono ?_
            rintro e w6 ⟨rfl, rfl⟩
            go_wp2_with fail
            try rw [Exit.noGoto_ret]
            refine bodyPost_ret ?_ rfl (read_end hx hown3 HB HF1 hfb3 (Jm.stops_sum HE2.out HXD.out HE3.out HND.out (.inr hne)))
            simp [results, Tryd.results47, go_sem]
          · go_wp2_with fail
            refine (sum_any x _ (by omega)).mono ?_
            rintro e w6 ⟨rfl, rfl⟩
            have hcount := Jm.forms_count rs
            have hsz3 := World.grownBy.size hfb3
            go_wp2_with (at_builtin; refine wpList_append_own _ rfl _ _ 46 rfl w1.heap.size 9 i0 (.string (S [])) 1 16 Tryd.underlying46 hi hz0 hz1 hz2 rfl (by decide) _ _ _ rfl (hown3.out.alloc _) ⟨w6.heap.size, 0, none⟩ 1 1 [.string (S x)] rfl rfl ?c1 ?c2 ?c3 ?c4 ?c5 ?_)
            case c1 =>
              intro j u hj
              match j, hj with
              | 0, hj => simp at hj; subst hj; simp [Addr.add]
            case c2 => intro u hu; simp at hu; subst hu; rfl
            case c3 => unfold maxLen; omega
            case c4 => omega
            case c5 => simp; omega
            intro v' w7 hown7 hgrow _
            have hlt3 := fun k hk => (hown3.out.lt k hk).1
            have hrd7 := (hrd3.fr (Fr.alloc w6 (.cells #[.string (S x)] 9))).grown hgrow (fun e => by have := hlt3 b e.symm; omega)
            have hfb7 := (hfb3.alloc (.cells #[.string (S x)] 9)).grown hgrow hlt3
            have hx7 := read_more hx hch (Jm.goes HE2.out HE3.out heq)
            have hown7 : Hid (w7.ownsRow w1.heap.size 9 1 v' (rs ++ [x]).length (strs (rs ++ [x]))) := Lib.hid (by rw [List.length_append, strs_snoc]; exact hown7)
            have hlx := congrArg List.length hx7.out.1
            rw [List.length_append] at hlx
            have hlf : (Jm.forms rs).length + 3 ≤ (Jm.forms (rs ++ [x])).length := by have := Jm.form_two x; rw [Jm.forms_snoc, List.length_append]; omega
            clear hown3 hgrow hlt3 hrd3 hfb3 hx HE2 HE3
            go_wp2_with fail
            refine (left_any hrd7).mono ?_
            rintro e w8 ⟨rfl, rfl⟩
            go_wp2_with fail
            go_roundw
            case rel => exact ⟨rs ++ [x], [], hx7, by go_num, hown7, hrd7, hfb7⟩
            case measure => simp [intOf]; omega
        · rcases hch with hch | ⟨hch, hne⟩ | ⟨hch, heq⟩
          · go_wp2_with fail
            try rw [Exit.noGoto_ret]
            refine bodyPost_ret ?_ rfl (read_end hx hown3 HB HF1 hfb3 (Jm.stops_sum HE2.out HXD.out HE3.out HND.out (.inl hch)))
            simp [results, Tryd.results47, go_sem]
          · have hb1 : ((n != (Jm.sum x : Int)) : Bool) = true := bne_iff_ne.2 hne
            go_wp2_with fail
            refine (sum_any x _ (by omega)).mono ?_
            rintro e w6 ⟨rfl, rfl⟩
            go_wp2_with fail
            try rw [Exit.noGoto_ret]
            refine bodyPost_ret ?_ rfl (read_end hx hown3 HB HF1 hfb3 (Jm.stops_sum HE2.out HXD.out HE3.out HND.out (.inr hne)))
            simp [results, Tryd.results47, go_sem]
          · go_wp2_with fail
            refine (sum_any x _ (by omega)).mono ?_
            rintro e w6 ⟨rfl, rfl⟩
            have hcount := Jm.forms_count rs
            have hsz3 := World.grownBy.size hfb3
            go_wp2_with (at_builtin; refine wpList_append_own _ rfl _ _ 46 rfl w1.heap.size 9 i0 (.string (S [])) 1 16 Tryd.underlying46 hi hz0 hz1 hz2 rfl (by decide) _ _ _ rfl (hown3.out.alloc _) ⟨w6.heap.size, 0, none⟩ 1 1 [.string (S x)] rfl rfl ?c1 ?c2 ?c3 ?c4 ?c5 ?_)
            case c1 =>
              intro j u hj
              match j, hj with
              | 0, hj => simp at hj; subst hj; simp [Addr.add]
            case c2 => intro u hu; simp at hu; subst hu; rfl
            case c3 => unfold maxLen; omega
            case c4 => omega
            case c5 => simp; omega
            intro v' w7 hown7 hgrow _
            have hlt3 := fun k hk => (hown3.out.lt k hk).1
            have hrd7 := (hrd3.fr (Fr.alloc w6 (.cells #[.string (S x)] 9))).grown hgrow (fun e => by have := hlt3 b e.symm; omega)
            have hfb7 := (hfb3.alloc (.cells #[.string (S x)] 9)).grown hgrow hlt3
            have hx7 := read_more hx hch (Jm.goes HE2.out HE3.out heq)
            have hown7 : Hid (w7.ownsRow w1.heap.size 9 1 v' (rs ++ [x]).length (strs (rs ++ [x]))) := Lib.hid (by rw [List.length_append, strs_snoc]; exact hown7)
            have hlx := congrArg List.length hx7.out.1
            rw [List.length_append] at hlx
            have hlf : (Jm.forms rs).length + 3 ≤ (Jm.forms (rs ++ [x])).length := by have := Jm.form_two x; rw [Jm.forms_snoc, List.length_append]; omega
            clear hown3 hgrow hlt3 hrd3 hfb3 hx HE2 HE3
            go_wp2_with fail
            refine (left_any hrd7).mono ?_
            rintro e w8 ⟨rfl, rfl⟩
            go_wp2_with fail
            go_roundw
            case rel => exact ⟨rs ++ [x], r3, hx7, by go_num, hown7, hrd7, hfb7⟩
            case measure => simp [intOf]; omega
      · have HN3 := Lib.hid hnn
        clear hnn
        go_wp2_with fail
        refine (left_any hrd3).mono ?_
        rintro e w4 ⟨rfl, rfl⟩
        go_wp2_with fail
        refine (done_any hrd3).mono ?_
        rintro e w5 ⟨rfl, rfl⟩
        go_wp2_with fail
        try rw [Exit.noGoto_ret]
        refine bodyPost_ret ?_ rfl (read_end hx hown3 HB HF1 hfb3 (Jm.stops_num HE2.out HXD.out HN3.out))
        simp [results, Tryd.results47, go_sem]
    · have HN2 := Lib.hid hxn
      clear hxn
      go_wp2_with fail
      refine (rNum_any hrd2 (by simp)).mono ?_
      rintro e w3 ⟨hg, hf3⟩
      have hown3 := Lib.hid (hown2.out.kept hf3 (.inr (fun e => by have := (hown2.out.lt b e).1; omega)))
      have hfb3 := hfb2.trans hf3
      clear hown2 hfb2 hf3 hrd2
      rcases hg with ⟨n, r3, hnd, he3, rfl, hrd3⟩ | ⟨hnn, rfl, hrd3⟩
      · exfalso
        have := congrArg List.length he3
        rw [Wm.numE_f] at this
        simp at this
      · clear hnn
        go_wp2_with fail
        refine (left_any hrd3).mono ?_
        rintro e w4 ⟨rfl, rfl⟩
        go_wp2_with fail
        refine (done_any hrd3).mono ?_
        rintro e w5 ⟨rfl, rfl⟩
        go_wp2_with fail
        try rw [Exit.noGoto_ret]
        refine bodyPost_ret ?_ rfl (read_end hx hown3 HB HF1 hfb3 (Jm.stops_text HN2.out))
        simp [results, Tryd.results47, go_sem]
end Go.Proofs.YtjcajgcfkidbkaaDoor
