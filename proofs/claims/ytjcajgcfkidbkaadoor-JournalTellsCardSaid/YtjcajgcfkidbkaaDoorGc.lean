/-
  The reference of layer 3: Sum, Form, Forms, Records.
-/
import Derived.Test.YtjcajgcfkidbkaaDoorQrd
import Derived.Test.YtjcajgcfkidbkaaDoorRef
import Derived.Test.YtjcajgcfkidbkaaDoorJn
import Derived.Test.YtjcajgcfkidbkaaDoorFae
import Derived.Test.YtjcajgcfkidbkaaDoorJf
import Derived.Deep.AppendSrc
namespace Go.Proofs.YtjcajgcfkidbkaaDoor
open Go.RowKit

set_option maxHeartbeats 1000000 in
set_option maxRecDepth 100000 in
theorem rsum_any (l : List UInt8) (w : World) (h : l.length ≤ 1099511627776) :
    Calls Tryd.prog 15 #[.string (S l)] w fun e w' => e = .returned (.int .i64 (Jm.sum l : Nat)) ∧ w' = w := by
  go_enter Tryd.func15, Tryd.ntmps15
  go_wp2_with fail
  go_loop [3, 4] (fun s i => ∃ k : Nat, k ≤ l.length ∧ i = .int .i64 k ∧ s = .int .i64 (Jm.sumTo l k : Nat)) (fun _ i => l.length - (intOf i).toNat)
  case atStart => exact ⟨0, Nat.zero_le _, rfl, rfl⟩
  case round =>
    obtain ⟨k, hk, rfl, rfl⟩ := hrel
    by_cases hlt : k < l.length
    · have hs := Jm.sumTo_lt l k
      have hb : (l[k]).toNat ≤ 255 := Nat.le_of_lt_succ (UInt8.toNat_lt _)
      have hstep : (Jm.sumTo l (k + 1) : Int) = ((Jm.sumTo l k : Int) + ((l[k]).toNat : Int) * ((k : Int) + 1)) % 2147483647 := by
        rw [Jm.sumTo, List.getD_eq_getElem?_getD, List.getElem?_eq_getElem hlt, Option.getD_some, Int.natCast_emod, Int.natCast_add, Int.natCast_mul, Int.natCast_add, Int.mul_comm]; rfl
      have hm0 : 0 ≤ ((l[k]).toNat : Int) * ((k : Int) + 1) := Int.mul_nonneg (by omega) (by omega)
      have hm1 : ((l[k]).toNat : Int) * ((k : Int) + 1) ≤ 255 * 1099511627776 := Int.mul_le_mul (by omega) (by omega) (by omega) (by omega)
      have HS := Lib.hid hstep
      clear hstep
      go_wp2_with fail
      go_round
      case rel =>
        refine ⟨k + 1, by omega, by go_num, ?_⟩
        rw [HS.out]
      case measure => simp [intOf]; omega
    · go_wp2_with fail
      go_ret
      obtain rfl : k = l.length := by omega
      exact ⟨rfl, rfl⟩
set_option maxRecDepth 100000 in
theorem rform_any (l : List UInt8) (w : World) (h : l.length ≤ 1099511627776) :
    Calls Tryd.prog 55 #[.string (S l)] w fun e w' => e = .returned (.string (S (Jm.formE.f l))) ∧ Fr w w' := by
  have hs := Jm.sum_lt l
  have hl1 := Jm.text_len l h
  have hl2 := Jm.num_len (Jm.sum l) (by omega)
  go_enter Tryd.func55, Tryd.ntmps55
  go_wp2_with fail
  refine (rtext_any l _ (by omega)).mono ?_
  rintro e w1 ⟨rfl, hf1⟩
  go_wp2_with fail
  refine (rsum_any l _ h).mono ?_
  rintro e w2 ⟨rfl, rfl⟩
  go_wp2_with fail
  refine (rnum_any _ _ (by omega) (by omega)).mono ?_
  rintro e w3 ⟨rfl, hf3⟩
  go_wp2_with fail
  go_ret
  exact ⟨ret_str (S_append _ _), hf1.trans hf3⟩

theorem forms_take_succ (rs : List (List UInt8)) (k : Nat) (h : k < rs.length) : Jm.forms (rs.take (k + 1)) = Jm.forms (rs.take k) ++ Jm.formE.f rs[k] := by
  rw [List.take_succ_eq_append_getElem h, Jm.forms_snoc]
theorem forms_take_le (rs : List (List UInt8)) (k : Nat) : (Jm.forms (rs.take k)).length ≤ (Jm.forms rs).length := by
  have h : Jm.forms rs = Jm.forms (rs.take k) ++ Jm.forms (rs.drop k) := by rw [← Jm.forms_append, List.take_append_drop]
  rw [h, List.length_append]; omega
set_option maxHeartbeats 1000000 in
set_option maxRecDepth 100000 in
theorem rforms_at (b o c : Nat) (rs : List (List UInt8)) (w : World) (hs : Jm.Small rs) (hm : (Jm.forms rs).length ≤ 33554432) (hat : ∀ (k : Nat) (h : k < rs.length), w.cell? ⟨b, o + k, none⟩ = some (.string (S rs[k]))) :
    Calls Tryd.prog 51 #[.slice (some ⟨b, o, none⟩) rs.length c] w fun e w' => e = .returned (.string (S (Jm.forms rs))) ∧ Fr w w' := by
  have hcnt := Jm.forms_count rs
  have HS := Lib.hid hs
  have HM := Lib.hid hm
  have HAT := Lib.hid hat
  clear hs hat
  go_enter Tryd.func51, Tryd.ntmps51
  go_wp2_with fail
  go_loopw [3, 4] (fun s i wr => ∃ k : Nat, k ≤ rs.length ∧ i = .int .i64 k ∧ s = .string (S (Jm.forms (rs.take k))) ∧ Hid (Fr w wr)) (fun _ i _ => rs.length - (intOf i).toNat)
  case atStart => exact ⟨0, Nat.zero_le _, rfl, rfl, Lib.hid (Fr.refl w)⟩
  case round =>
    obtain ⟨k, hk, rfl, rfl, HF⟩ := hrel
    have hle := forms_take_le rs k
    by_cases hlt : k < rs.length
    · have hsm := HS.out rs[k] (List.getElem_mem hlt)
      have hfl := Jm.form_len rs[k] (by omega)
      have HNX := Lib.hid (forms_take_succ rs k hlt)
      have c0 := HF.out.cell (HAT.out k hlt)
      generalize rs[k] = x at *
      generalize Jm.forms (rs.take k) = y at *
      have HFM := Lib.hid (rform_any x wr (by omega))
      generalize Jm.formE.f x = z at *
      go_wp2_with fail
      refine HFM.out.mono ?_
      rintro e w2 ⟨rfl, hf2⟩
      have HF2 := Lib.hid (HF.out.trans hf2)
      clear hf2
      go_wp2_with fail
      go_roundw
      case rel => exact ⟨k + 1, by omega, by go_num, by rw [HNX.out, S_append], HF2⟩
      case measure => simp [intOf]; omega
    · go_wp2_with fail
      go_ret
      obtain rfl : k = rs.length := by omega
      rw [List.take_length]
      exact ⟨rfl, HF.out⟩
set_option maxRecDepth 100000 in
theorem rforms_nil (a : Option Addr) (c : Nat) (w : World) :
    Calls Tryd.prog 51 #[.slice a 0 c] w fun e w' => e = .returned (.string (S [])) ∧ Fr w w' := by
  go_enter Tryd.func51, Tryd.ntmps51
  go_wp2_with fail
  go_loopw [3, 4] (fun s i wr => i = .int .i64 0 ∧ s = .string (S []) ∧ wr = w) (fun _ _ _ => 0)
  case atStart => exact ⟨rfl, rfl, rfl⟩
  case round =>
    obtain ⟨rfl, rfl, rfl⟩ := hrel
    go_wp2_with fail
    go_ret
    exact ⟨rfl, Fr.refl _⟩
theorem rforms_any {v : Value} {rs : List (List UInt8)} {w : World} (h : IsSl w v (rs.map fun z => .string (S z))) (hs : Jm.Small rs) (hm : (Jm.forms rs).length ≤ 33554432) :
    Calls Tryd.prog 51 #[v] w fun e w' => e = .returned (.string (S (Jm.forms rs))) ∧ Fr w w' := by
  rcases sl_get h with ⟨rfl, a, c, rfl⟩ | ⟨b, o, c, rfl, hat⟩
  · exact rforms_nil a c w
  · exact rforms_at b o c rs w hs hm hat

/-- What Records returns. -/
def RecP (s : List UInt8) (w : World) (e : Ending) (w' : World) : Prop := ∃ v rs rest, e = .returned v ∧ Jm.Recs s rs rest ∧ w'.ownsRow w.heap.size 9 1 v rs.length (strs rs) ∧ Fr w w'
theorem qread_end {s rest : List UInt8} {rs : List (List UInt8)} {v : Value} {w w1 wx : World} {b : Nat} (hx : Hid (s = Jm.forms rs ++ rest ∧ Jm.Small rs)) (hown : Hid (wx.ownsRow w1.heap.size 9 1 v rs.length (strs rs)))
    (hb : Hid (b = w.heap.size)) (hf1 : Hid (Fr w w1)) (hfb : FrB b w1 wx) (hst : Jm.Stops rest) :
    RecP s w (.returned v) wx :=
  ⟨v, rs, rest, rfl, ⟨hx.out.1, hx.out.2, hst⟩, row_mono hown.out hf1.out.size, FrB.to_fr hf1.out (by rw [hb.out]; exact Nat.le_refl _) hfb⟩
set_option maxHeartbeats 4000000 in
set_option maxRecDepth 100000 in
theorem rrecords_any (s : List UInt8) (w : World) (hs : s.length ≤ 16777216) :
    Calls Tryd.prog 50 #[.string (S s)] w (RecP s w) := by
  obtain ⟨i0, hi, hz0, hz1, hz2⟩ := info_parts infoStr
  go_enter Tryd.func50, Tryd.ntmps50
  go_wp2_with fail
  refine (qopen_any s w).mono ?_
  rintro e w1 ⟨rfl, hrd1, hf1⟩
  have hlt1 := hrd1.lt
  obtain ⟨b, hb⟩ : ∃ b, b = w.heap.size := ⟨_, rfl⟩
  rw [← hb] at hrd1 hlt1
  have HB := Lib.hid hb
  have HF1 := Lib.hid hf1
  rw [← hb]
  clear hb hf1
  go_wp2_with fail
  go_loopw [3] (fun v wr => ∃ (rs : List (List UInt8)) (rest : List UInt8) (a : Option Addr) (m c : Nat), v = .slice a m c ∧ Hid (m = rs.length) ∧ Hid (s = Jm.forms rs ++ rest ∧ Jm.Small rs) ∧ Hid (wr.ownsRow w1.heap.size 9 1 v rs.length (strs rs)) ∧ Rd 110 b rest false wr ∧ FrB b w1 wr) (fun v _ => s.length - sLen v)
  case atStart => exact ⟨[], s, none, 0, 0, rfl, Lib.hid rfl, Lib.hid ⟨rfl, by intro r hr; simp at hr⟩, Lib.hid (World.ownsRow_nil _ _ _ _), hrd1, FrB.refl _ _⟩
  case round =>
    obtain ⟨rs, rest, va, vm, vc, rfl, HVM, hx, hown, hrd, hfb⟩ := hrel
    clear hrd1
    have hlen : s.length = (Jm.forms rs).length + rest.length := by rw [hx.out.1, List.length_append]
    go_wp2_with fail
    refine (qleft_any hrd).mono ?_
    rintro e w1' ⟨rfl, rfl⟩
    by_cases hz : rest.length = 0
    · have HST : Hid (Jm.Stops rest) := Lib.hid (by rw [List.length_eq_zero_iff.1 hz]; exact Jm.stops_nil)
      go_wp2_with fail
      try rw [Exit.noGoto_ret]
      refine bodyPost_ret ?_ rfl (qread_end hx hown HB HF1 hfb HST.out)
      simp [results, Tryd.results50, go_sem]
    have hpos : (0 : Int) < (rest.length : Int) := by omega
    go_wp2_with fail
    refine (qText_any hrd (by omega) (by simp)).mono ?_
    rintro e w2 ⟨hg, hf2⟩
    have hown2 := Lib.hid (hown.out.kept hf2 (.inr (fun e => by have := (hown.out.lt b e).1; omega)))
    have hfb2 := hfb.trans hf2
    clear hown hfb hf2 hrd
    rcases hg with ⟨x, r2, hxd, he2, rfl, hrd2⟩ | ⟨hxn, rfl, hrd2⟩
    · have hl2 := rest_le he2
      have HE2 := Lib.hid he2
      have HXD := Lib.hid hxd
      clear he2 hxd
      go_wp2_with fail
      refine (qNum_any hrd2 (by omega)).mono ?_
      rintro e w3 ⟨hg, hf3⟩
      have hown3 := Lib.hid (hown2.out.kept hf3 (.inr (fun e => by have := (hown2.out.lt b e).1; omega)))
      have hfb3 := hfb2.trans hf3
      clear hown2 hfb2 hf3 hrd2
      rcases hg with ⟨n, r3, hnd, he3, rfl, hrd3⟩ | ⟨hnn, rfl, hrd3⟩
      · have hl3 := rest_le he3
        have HE3 := Lib.hid he3
        have HND := Lib.hid hnd
        have c1 := hrd3.c1
        clear he3 hnd
        have hch : 20000 < x.length ∨ (x.length ≤ 20000 ∧ n ≠ (Jm.sum x : Int)) ∨ (x.length ≤ 20000 ∧ n = (Jm.sum x : Int)) := by omega
        rcases hch with hch | ⟨hch, hne⟩ | ⟨hch, heq⟩
        · go_wp2_with fail
          try rw [Exit.noGoto_ret]
          refine bodyPost_ret ?_ rfl (qread_end hx hown3 HB HF1 hfb3 (Jm.stops_sum HE2.out HXD.out HE3.out HND.out (.inl hch)))
          simp [results, Tryd.results50, go_sem]
        · have hb1 : ((n != (Jm.sum x : Int)) : Bool) = true := bne_iff_ne.2 hne
          go_wp2_with fail
          refine (rsum_any x _ (by omega)).mono ?_
          rintro e w6 ⟨rfl, rfl⟩
          go_wp2_with fail
          try rw [Exit.noGoto_ret]
          refine bodyPost_ret ?_ rfl (qread_end hx hown3 HB HF1 hfb3 (Jm.stops_sum HE2.out HXD.out HE3.out HND.out (.inr hne)))
          simp [results, Tryd.results50, go_sem]
        · subst heq
          go_wp2_with fail
          refine (rsum_any x _ (by omega)).mono ?_
          rintro e w6 ⟨rfl, rfl⟩
          have hcount := Jm.forms_count rs
          have hsz3 := World.grownBy.size hfb3
          go_wp2_with (at_builtin; go_loud (refine wpList_append_own _ rfl _ _ 46 rfl w1.heap.size 9 i0 (.string (S [])) 1 16 Tryd.underlying46 hi hz0 hz1 hz2 rfl (by decide) _ _ _ rfl (hown3.out.alloc _) ⟨w6.heap.size, 0, none⟩ 1 1 [.string (S x)] rfl rfl ?c1 ?c2 ?c3 ?c4 ?c5 ?_))
          case c1 =>
            intro j u hj
            match j, hj with
            | 0, hj => simp at hj; subst hj; simp [Addr.add]
          case c2 => intro u hu; simp at hu; subst hu; rfl
          case c3 => unfold maxLen; omega
          case c4 => omega
          case c5 => simp; omega
          intro v' w7 hown7 hgrow _
          have hlt3 := fun k hk => (hown3.out.lt k hk).1
          have hrd7 := (hrd3.fr (Fr.alloc w6 (.cells #[.string (S x)] 9))).grown hgrow (fun e => by have := hlt3 b e.symm; omega)
          have hfb7 := (hfb3.alloc (.cells #[.string (S x)] 9)).grown hgrow hlt3
          have hx7 := read_more hx hch (Jm.goes HE2.out HE3.out rfl)
          have hown7 : Hid (w7.ownsRow w1.heap.size 9 1 v' (rs ++ [x]).length (strs (rs ++ [x]))) := Lib.hid (by rw [List.length_append, strs_snoc]; exact hown7)
          obtain ⟨a7, c7, rfl⟩ := strs_form hown7.out
          have hlx := congrArg List.length hx7.out.1
          rw [List.length_append] at hlx
          have hlf : (Jm.forms rs).length + 3 ≤ (Jm.forms (rs ++ [x])).length := by have := Jm.form_two x; rw [Jm.forms_snoc, List.length_append]; omega
          clear hown3 hgrow hlt3 hrd3 hfb3 hx HE2 HE3
          go_wp2_with fail
          go_roundw
          case rel => exact ⟨rs ++ [x], r3, a7, _, c7, rfl, Lib.hid rfl, hx7, hown7, hrd7, hfb7⟩
          case measure =>
            have hvm := HVM.out
            simp [sLen]; omega
      · have HN3 := Lib.hid hnn
        have c1 := hrd3.c1
        clear hnn
        go_wp2_with fail
        try rw [Exit.noGoto_ret]
        refine bodyPost_ret ?_ rfl (qread_end hx hown3 HB HF1 hfb3 (Jm.stops_num HE2.out HXD.out HN3.out))
        simp [results, Tryd.results50, go_sem]
    · have HN2 := Lib.hid hxn
      clear hxn
      go_wp2_with fail
      refine (qNum_any hrd2 (by simp)).mono ?_
      rintro e w3 ⟨hg, hf3⟩
      have hown3 := Lib.hid (hown2.out.kept hf3 (.inr (fun e => by have := (hown2.out.lt b e).1; omega)))
      have hfb3 := hfb2.trans hf3
      clear hown2 hfb2 hf3 hrd2
      rcases hg with ⟨n, r3, hnd, he3, rfl, hrd3⟩ | ⟨hnn, rfl, hrd3⟩
      · exfalso
        have := congrArg List.length he3
        rw [Wm.numE_f] at this
        simp at this
      · have c1 := hrd3.c1
        clear hnn
        go_wp2_with fail
        try rw [Exit.noGoto_ret]
        refine bodyPost_ret ?_ rfl (qread_end hx hown3 HB HF1 hfb3 (Jm.stops_text HN2.out))
        simp [results, Tryd.results50, go_sem]

/-- A list of strings appended to an empty one. -/
theorem wpList_strs {w : World} {ops : Array Oper} {rest : List Oper} {o : Oper} {a : Act} {Q : Exit → Act → World → Prop} (hgd : o.guard = none) (s x : Operand)
    (ho : o.op = .call { callee := .builtin .append, args := #[s, x], argTypes := #[46, 46] })
    (hs : a.eval s = .slice (some ⟨w.heap.size, 0, none⟩) 0 0) {v : Value} {rs : List (List UInt8)} (hk : IsSl (w.alloc (.cells #[] 9)) v (rs.map fun z => .string (S z))) (hx : a.eval x = v) (hn : rs.length ≤ 1000000)
    (hK : ∀ g m cap w', m = rs.length → w'.ownsRow 0 9 1 (.slice (some ⟨g, 0, none⟩) m cap) rs.length (strs rs) → Fr w w' → w.heap.size ≤ g → wpList Tryd.prog ops Q rest (a.put o.dst (.slice (some ⟨g, 0, none⟩) m cap)) w') :
    wpList Tryd.prog ops Q (o :: rest) a (w.alloc (.cells #[] 9)) := by
  obtain ⟨i0, hi, hz0, hz1, hz2⟩ := info_parts infoStr
  have hnew := heap_alloc_new w (.cells #[] 9)
  have hrow : (w.alloc (.cells #[] 9)).ownsRow 0 9 1 (.slice (some ⟨w.heap.size, 0, none⟩) 0 0) 0 [] := ⟨rfl, .inr ⟨w.heap.size, 0, #[], rfl, Nat.zero_le _, hnew, Nat.le_refl _, Nat.zero_le _, rfl, rfl⟩⟩
  have empty : ∀ a' c, v = .slice a' 0 c → rs = [] → wpList Tryd.prog ops Q (o :: rest) a (w.alloc (.cells #[] 9)) := fun a' c hv hks => by
    subst hks
    have hsrc : Src Tryd.prog i0.size 46 (.slice a' 0 c) 0 [] (w.alloc (.cells #[] 9)) := by
      cases a' with
      | none => exact Src.ofNil _ Tryd.underlying46 c
      | some ad => exact Src.ofSlice _ Tryd.underlying46 ad 0 c [] (by simp) (fun j u hu => by simp at hu) (fun u hu => by simp at hu)
    have hrun := run_append_room_src (P := Tryd.prog) (w.alloc (.cells #[] 9)) 46 46 o.type 9 i0 Tryd.underlying46 hi w.heap.size 0 0 0 (.slice a' 0 c) 0 [] hsrc (Nat.le_refl _) (fun j hj => by simp at hj) (fun j hj => by simp at hj)
    refine wpList_plain hgd fun K hK' => ?_
    have hx' : a.eval x = .slice a' 0 c := hx.trans hv
    unfold Oper.wp
    simp [execOp, ho, resolve, invoke, builtin, hs, hx', hrun, Result.andThen]
    exact hK' _ _ (hK w.heap.size 0 0 _ rfl hrow (Fr.alloc w _) (Nat.le_refl _))
  rcases sl_get hk with ⟨hks, a', c, hv⟩ | ⟨b, off, c, hv, hat⟩
  · exact empty a' c hv hks
  · by_cases hks : rs = []
    · subst hks
      exact empty _ _ hv rfl
    · have hpos : 0 < rs.length := List.length_pos_iff.2 hks
      refine wpList_append_lies _ hgd s x 46 ho 0 9 i0 (.string (S [])) 1 16 Tryd.underlying46 hi hz0 hz1 hz2 rfl (by decide) _ 0 [] hs hrow ⟨b, off, none⟩ rs.length c (strs rs) (hx.trans hv) (by rw [strs_len, Nat.mul_one]) (fun j u hu => ?_) (fun u hu => ?_) hpos (by unfold maxLen; omega) (by omega) (Nat.zero_le _) _ rfl ?_
      · rw [Addr.add_mid]
        have hj : j < rs.length := by have := (List.getElem?_eq_some_iff.1 hu).1; rw [strs_len] at this; omega
        rw [hat j hj, ← hu]
        simp [strs, hj]
      · obtain ⟨z, _, rfl⟩ := List.mem_map.1 hu
        rfl
      · intro g cap w' hown hgrow hat' hlt
        have hg : w.heap.size ≤ g := by
          rcases hat' with e | e
          · have e : w.heap.size = g := by simpa [Value.ownBlock] using e
            omega
          · rw [e]; simp
        refine hK g (0 + rs.length) cap w' (Nat.zero_add _) ?_ ?_ hg
        · simpa using hown
        · refine (Fr.alloc w (.cells #[] 9)).of_own (O := fun k => k = w.heap.size) (fun k hk => Nat.le_of_eq hk.symm) ?_
          have hpp : ∀ p, (Value.slice (some ⟨w.heap.size, 0, none⟩) 0 0).ownBlock = some p → p = w.heap.size := fun p hp => by
            have : w.heap.size = p := by simpa [Value.ownBlock] using hp
            exact this.symm
          exact (Own.refl _ _).grown hgrow fun p hp => .inl (hpp p hp)
end Go.Proofs.YtjcajgcfkidbkaaDoor
