/-
  Contracts: wire's readers of lists.
-/
import Derived.Test.YtjabpagfoclajaaDoorList
namespace Go.Proofs.YtjabpagfoclajaaDoor
open Go.RowKit

theorem intE_ne (x : Int) : (Wm.intE 59).f x ≠ [] := by rw [Wm.intE_f]; simp
theorem textE_ne (x : List UInt8) : Wm.textE.f x ≠ [] := by rw [Wm.textE_f]; simp

theorem infoInt : (Tryd.prog.info? 3).map (fun i => (i.zero, i.size, i.bytes)) = some (some (.int .i64 0), 1, 8) := by kernel_rfl

set_option maxHeartbeats 1000000 in
theorem readInts {b : Nat} {r : List UInt8} {f : Bool} {w : World} (h : Rd 54 b r f w) (hr : r.length ≤ 4294967296) (hfr : f = true → r = []) :
    Calls Tryd.prog 56 #[.pointer (some ⟨b, 0, none⟩), .func (.func 26) #[.pointer (some ⟨b, 0, none⟩)] #[]] w fun e w' => GotL 54 b w.heap.size (Wm.intE 59) (Value.int .i64) r f e w' ∧ FrB b w w' := by
  obtain ⟨i0, hi, hz0, hz1, hz2⟩ := info_parts infoInt
  have hblt := h.lt
  go_enter Tryd.func56, Tryd.ntmps56
  go_wp2_with fail
  refine (count_any 91 h (by omega) (by decide)).mono ?_
  rintro e w1 ⟨hg, hf1⟩
  rcases hg with ⟨n, r1, hn, he, rfl, hrd1⟩ | ⟨hn, rfl, hrd1⟩
  · have hff : f = false := by
      cases f with
      | false => rfl
      | true => rw [hfr rfl] at he; have := congrArg List.length he; rw [Wm.numE_f] at this; simp at this
    have hr1 := rest_le he
    subst hff
    clear hfr
    have HE := Lib.hid he
    have hn0 := hn.1
    have hn1 := hn.2
    have HN := Lib.hid hn
    clear he hn
    go_wp2_with fail
    go_loopw [6, 7] (fun v i wr => ∃ k : Nat, i = .int .i64 k ∧ k ≤ r1.length + 1 ∧ Lst (Wm.intE 59) (Value.int .i64) 54 b w.heap.size 3 r1 n w k v wr) (fun _ i _ => r1.length + 1 - (intOf i).toNat)
    case atStart => exact ⟨0, rfl, Nat.zero_le _, [], r1, false, rfl, World.ownsRow_nil _ _ _ _, hrd1, hf1, Way.start _ _ hn0⟩
    case round =>
      obtain ⟨k, rfl, hk1, xs, rest, fl, hxk, hown, hrd, hfb, hway⟩ := hrel
      clear hrd1 hf1
      have c0 := hrd.c0
      have c1 := hrd.c1
      have f0 := hrd.f 0
      have hown0 := Lib.hid hown
      have HX := Lib.hid hxk
      clear hown hxk
      cases fl with
      | true =>
        have hrest := hway.nil
        subst hrest
        have HW := Lib.hid hway
        clear hway
        by_cases hlt : (k : Int) < n
        all_goals
          go_wp2_with fail
          refine (Tryd.strings_HasPrefix _ _ _).mono ?_
          rintro e w2 ⟨rfl, rfl⟩
          go_wp2_with fail
          refine (fail_any hrd).mono ?_
          rintro e w3 ⟨rfl, hrd3, hf3⟩
          go_wp2_with fail
          go_ret
          exact ⟨.inr ⟨HW.out.fail2 HE.out, rfl, hrd3⟩, hfb.trans hf3⟩
      | false =>
        have hcnt := hway.count intE_ne HX.out
        have HW := Lib.hid hway
        clear hway
        by_cases hlt : (k : Int) < n
        · go_wp2_with fail
          refine (rInt_any hrd (by omega)).mono ?_
          rintro e w2 ⟨hg, hf2⟩
          have hown2 := hown0.out.kept hf2 (.inr (fun e => by have := (hown0.out.lt b e).1; omega))
          have hfb2 := hfb.trans hf2
          have hsz := hfb2.size
          clear hfb hf2 hrd c0 c1 f0 hown0
          rcases hg with ⟨x, r2, hx, he2, rfl, hrd2⟩ | ⟨hx, rfl, hrd2⟩
          · have HW2 := Lib.hid (HW.out.good hlt hx he2)
            have hx2 := Lib.hid hx
            clear hx he2 HW
            go_wp2_with (at_builtin; refine wpList_append_own _ rfl _ _ 22 rfl w.heap.size 3 i0 (.int .i64 0) 1 8 Tryd.underlying22 hi hz0 hz1 hz2 rfl (by decide) _ _ _ rfl (hown2.alloc _) ⟨w2.heap.size, 0, none⟩ 1 1 [.int .i64 x] rfl rfl ?c1 ?c2 ?c3 ?c4 ?c5 ?_)
            case c1 =>
              intro j u hj
              match j, hj with
              | 0, hj => simp at hj; subst hj; simp [Addr.add]
            case c2 => intro u hu; simp at hu; subst hu; rfl
            case c3 => unfold maxLen; omega
            case c4 => omega
            case c5 => simp; omega
            intro v' w3 hown3 hgrow _
            have hlt3 := fun k hk => (hown2.lt k hk).1
            have hrd3 := (hrd2.fr (Fr.alloc w2 (.cells #[.int .i64 x] 3))).grown hgrow (fun e => by have := hlt3 b e.symm; omega)
            have hfb3 := (hfb2.alloc (.cells #[.int .i64 x] 3)).grown hgrow hlt3
            clear hown2 hgrow hlt3 hrd2 hfb2
            go_wp2_with fail
            go_roundw
            case rel => exact ⟨k + 1, by go_num, by omega, xs ++ [.int .i64 x], r2, false, by rw [List.length_append, HX.out]; rfl, hown3, hrd3, hfb3, HW2.out⟩
            case measure => simp [intOf]; omega
          · have HW2 := Lib.hid (HW.out.bad (xs' := xs ++ [.int .i64 0]) (Wm.intE_pf Wm.num59) HX.out hlt hx)
            clear hx HW
            go_wp2_with (at_builtin; refine wpList_append_own _ rfl _ _ 22 rfl w.heap.size 3 i0 (.int .i64 0) 1 8 Tryd.underlying22 hi hz0 hz1 hz2 rfl (by decide) _ _ _ rfl (hown2.alloc _) ⟨w2.heap.size, 0, none⟩ 1 1 [.int .i64 0] rfl rfl ?c1 ?c2 ?c3 ?c4 ?c5 ?_)
            case c1 =>
              intro j u hj
              match j, hj with
              | 0, hj => simp at hj; subst hj; simp [Addr.add]
            case c2 => intro u hu; simp at hu; subst hu; rfl
            case c3 => unfold maxLen; omega
            case c4 => omega
            case c5 => simp; omega
            intro v' w3 hown3 hgrow _
            have hlt3 := fun k hk => (hown2.lt k hk).1
            have hrd3 := (hrd2.fr (Fr.alloc w2 (.cells #[.int .i64 0] 3))).grown hgrow (fun e => by have := hlt3 b e.symm; omega)
            have hfb3 := (hfb2.alloc (.cells #[.int .i64 0] 3)).grown hgrow hlt3
            clear hown2 hgrow hlt3 hrd2 hfb2
            go_wp2_with fail
            go_roundw
            case rel => exact ⟨k + 1, by go_num, by omega, xs ++ [.int .i64 0], [], true, by rw [List.length_append, HX.out]; rfl, hown3, hrd3, hfb3, HW2.out⟩
            case measure => simp [intOf]; omega
        · by_cases hc : ∃ r', rest = 93 :: r'
          · obtain ⟨r', hrest⟩ := hc
            have hp : Lib.hasPrefix rest [93] = true := by rw [hrest]; simp [Lib.hasPrefix]
            have hx : (S rest).extract 1 rest.length = S r' := by rw [hrest, S_extract]; simp
            have hl : 1 ≤ rest.length := by rw [hrest]; simp
            have HD := Lib.hid (HW.out.done HX.out (by omega) HN.out HE.out hrest)
            have HXX := Lib.hid hx
            have hset := Lib.hid (hrd.set0 r')
            clear hx hrest
            go_wp2_with fail
            refine (Tryd.strings_HasPrefix _ _ _).mono ?_
            rintro e w2 ⟨rfl, rfl⟩
            go_wp2_with fail
            rw [HXX.out]
            go_ret
            obtain ⟨l, hl1, hl2, hl3⟩ := HD.out
            refine ⟨.inl ⟨l, r', _, hl1, hl3, rfl, ?_, hset.out⟩, hfb.trans (FrB.set b 0 w2 _)⟩
            rw [← hl2]
            exact (IsSlB.own hown0.out).frb (FrB.set b 0 w2 _) (by omega)
          · have hp : Lib.hasPrefix rest [93] = false := by
              cases rest with
              | nil => rfl
              | cons d rt =>
                have hd : d ≠ 93 := fun e => hc ⟨rt, by rw [e]⟩
                simp [Lib.hasPrefix, List.isPrefixOf, Ne.symm hd]
            have HC := Lib.hid hc
            clear hc
            go_wp2_with fail
            refine (Tryd.strings_HasPrefix _ _ _).mono ?_
            rintro e w2 ⟨rfl, rfl⟩
            go_wp2_with fail
            refine (fail_any hrd).mono ?_
            rintro e w3 ⟨rfl, hrd3, hf3⟩
            go_wp2_with fail
            go_ret
            exact ⟨.inr ⟨HW.out.fail1 (Wm.intE_pf Wm.num59) HX.out (by omega) HE.out (fun r' e => HC.out ⟨r', e⟩), rfl, hrd3⟩, hfb.trans hf3⟩
  · have HN := Lib.hid hn
    clear hn
    go_wp2_with fail
    go_loopw [6, 7] (fun v i wr => v = .slice none 0 0 ∧ i = .int .i64 0 ∧ wr = w1) (fun _ _ _ => 0)
    case atStart => exact ⟨rfl, rfl, rfl⟩
    case round =>
      obtain ⟨rfl, rfl, rfl⟩ := hrel
      have c0 := hrd1.c0
      go_wp2_with fail
      refine (Tryd.strings_HasPrefix _ _ _).mono ?_
      rintro e w2 ⟨rfl, rfl⟩
      go_wp2_with fail
      refine (fail_any hrd1).mono ?_
      rintro e w3 ⟨rfl, hrd3, hf3⟩
      go_wp2_with fail
      go_ret
      exact ⟨.inr ⟨list_none HN.out, rfl, hrd3⟩, hf1.trans hf3⟩

theorem infoStr : (Tryd.prog.info? 9).map (fun i => (i.zero, i.size, i.bytes)) = some (some (.string (S [])), 1, 16) := by kernel_rfl

set_option maxHeartbeats 1000000 in
theorem readStrs {b : Nat} {r : List UInt8} {f : Bool} {w : World} (h : Rd 54 b r f w) (hr : r.length ≤ 4294967296) (hfr : f = true → r = []) :
    Calls Tryd.prog 57 #[.pointer (some ⟨b, 0, none⟩), .func (.func 28) #[.pointer (some ⟨b, 0, none⟩)] #[]] w fun e w' => GotL 54 b w.heap.size Wm.textE (fun z => Value.string (S z)) r f e w' ∧ FrB b w w' := by
  obtain ⟨i0, hi, hz0, hz1, hz2⟩ := info_parts infoStr
  have hblt := h.lt
  go_enter Tryd.func57, Tryd.ntmps57
  go_wp2_with fail
  refine (count_any 91 h (by omega) (by decide)).mono ?_
  rintro e w1 ⟨hg, hf1⟩
  rcases hg with ⟨n, r1, hn, he, rfl, hrd1⟩ | ⟨hn, rfl, hrd1⟩
  · have hff : f = false := by
      cases f with
      | false => rfl
      | true => rw [hfr rfl] at he; have := congrArg List.length he; rw [Wm.numE_f] at this; simp at this
    have hr1 := rest_le he
    subst hff
    clear hfr
    have HE := Lib.hid he
    have hn0 := hn.1
    have hn1 := hn.2
    have HN := Lib.hid hn
    clear he hn
    go_wp2_with fail
    go_loopw [6, 7] (fun v i wr => ∃ k : Nat, i = .int .i64 k ∧ k ≤ r1.length + 1 ∧ Lst Wm.textE (fun z => Value.string (S z)) 54 b w.heap.size 9 r1 n w k v wr) (fun _ i _ => r1.length + 1 - (intOf i).toNat)
    case atStart => exact ⟨0, rfl, Nat.zero_le _, [], r1, false, rfl, World.ownsRow_nil _ _ _ _, hrd1, hf1, Way.start _ _ hn0⟩
    case round =>
      obtain ⟨k, rfl, hk1, xs, rest, fl, hxk, hown, hrd, hfb, hway⟩ := hrel
      clear hrd1 hf1
      have c0 := hrd.c0
      have c1 := hrd.c1
      have f0 := hrd.f 0
      have hown0 := Lib.hid hown
      have HX := Lib.hid hxk
      clear hown hxk
      cases fl with
      | true =>
        have hrest := hway.nil
        subst hrest
        have HW := Lib.hid hway
        clear hway
        by_cases hlt : (k : Int) < n
        all_goals
          go_wp2_with fail
          refine (Tryd.strings_HasPrefix _ _ _).mono ?_
          rintro e w2 ⟨rfl, rfl⟩
          go_wp2_with fail
          refine (fail_any hrd).mono ?_
          rintro e w3 ⟨rfl, hrd3, hf3⟩
          go_wp2_with fail
          go_ret
          exact ⟨.inr ⟨HW.out.fail2 HE.out, rfl, hrd3⟩, hfb.trans hf3⟩
      | false =>
        have hcnt := hway.count textE_ne HX.out
        have HW := Lib.hid hway
        clear hway
        by_cases hlt : (k : Int) < n
        · go_wp2_with fail
          refine (rText_any hrd (by omega)).mono ?_
          rintro e w2 ⟨hg, hf2⟩
          have hown2 := hown0.out.kept hf2 (.inr (fun e => by have := (hown0.out.lt b e).1; omega))
          have hfb2 := hfb.trans hf2
          have hsz := hfb2.size
          clear hfb hf2 hrd c0 c1 f0 hown0
          rcases hg with ⟨x, r2, hx, he2, rfl, hrd2⟩ | ⟨hx, rfl, hrd2⟩
          · have HW2 := Lib.hid (HW.out.good hlt hx he2)
            have hx2 := Lib.hid hx
            clear hx he2 HW
            go_wp2_with (at_builtin; refine wpList_append_own _ rfl _ _ 23 rfl w.heap.size 9 i0 (.string (S [])) 1 16 Tryd.underlying23 hi hz0 hz1 hz2 rfl (by decide) _ _ _ rfl (hown2.alloc _) ⟨w2.heap.size, 0, none⟩ 1 1 [.string (S x)] rfl rfl ?c1 ?c2 ?c3 ?c4 ?c5 ?_)
            case c1 =>
              intro j u hj
              match j, hj with
              | 0, hj => simp at hj; subst hj; simp [Addr.add]
            case c2 => intro u hu; simp at hu; subst hu; rfl
            case c3 => unfold maxLen; omega
            case c4 => omega
            case c5 => simp; omega
            intro v' w3 hown3 hgrow _
            have hlt3 := fun k hk => (hown2.lt k hk).1
            have hrd3 := (hrd2.fr (Fr.alloc w2 (.cells #[.string (S x)] 9))).grown hgrow (fun e => by have := hlt3 b e.symm; omega)
            have hfb3 := (hfb2.alloc (.cells #[.string (S x)] 9)).grown hgrow hlt3
            clear hown2 hgrow hlt3 hrd2 hfb2
            go_wp2_with fail
            go_roundw
            case rel => exact ⟨k + 1, by go_num, by omega, xs ++ [.string (S x)], r2, false, by rw [List.length_append, HX.out]; rfl, hown3, hrd3, hfb3, HW2.out⟩
            case measure => simp [intOf]; omega
          · have HW2 := Lib.hid (HW.out.bad (xs' := xs ++ [.string (S [])]) Wm.textE_pf HX.out hlt hx)
            clear hx HW
            go_wp2_with (at_builtin; refine wpList_append_own _ rfl _ _ 23 rfl w.heap.size 9 i0 (.string (S [])) 1 16 Tryd.underlying23 hi hz0 hz1 hz2 rfl (by decide) _ _ _ rfl (hown2.alloc _) ⟨w2.heap.size, 0, none⟩ 1 1 [.string (S [])] rfl rfl ?c1 ?c2 ?c3 ?c4 ?c5 ?_)
            case c1 =>
              intro j u hj
              match j, hj with
              | 0, hj => simp at hj; subst hj; simp [Addr.add]
            case c2 => intro u hu; simp at hu; subst hu; rfl
            case c3 => unfold maxLen; omega
            case c4 => omega
            case c5 => simp; omega
            intro v' w3 hown3 hgrow _
            have hlt3 := fun k hk => (hown2.lt k hk).1
            have hrd3 := (hrd2.fr (Fr.alloc w2 (.cells #[.string (S [])] 9))).grown hgrow (fun e => by have := hlt3 b e.symm; omega)
            have hfb3 := (hfb2.alloc (.cells #[.string (S [])] 9)).grown hgrow hlt3
            clear hown2 hgrow hlt3 hrd2 hfb2
            go_wp2_with fail
            go_roundw
            case rel => exact ⟨k + 1, by go_num, by omega, xs ++ [.string (S [])], [], true, by rw [List.length_append, HX.out]; rfl, hown3, hrd3, hfb3, HW2.out⟩
            case measure => simp [intOf]; omega
        · by_cases hc : ∃ r', rest = 93 :: r'
          · obtain ⟨r', hrest⟩ := hc
            have hp : Lib.hasPrefix rest [93] = true := by rw [hrest]; simp [Lib.hasPrefix]
            have hx : (S rest).extract 1 rest.length = S r' := by rw [hrest, S_extract]; simp
            have hl : 1 ≤ rest.length := by rw [hrest]; simp
            have HD := Lib.hid (HW.out.done HX.out (by omega) HN.out HE.out hrest)
            have HXX := Lib.hid hx
            have hset := Lib.hid (hrd.set0 r')
            clear hx hrest
            go_wp2_with fail
            refine (Tryd.strings_HasPrefix _ _ _).mono ?_
            rintro e w2 ⟨rfl, rfl⟩
            go_wp2_with fail
            rw [HXX.out]
            go_ret
            obtain ⟨l, hl1, hl2, hl3⟩ := HD.out
            refine ⟨.inl ⟨l, r', _, hl1, hl3, rfl, ?_, hset.out⟩, hfb.trans (FrB.set b 0 w2 _)⟩
            rw [← hl2]
            exact (IsSlB.own hown0.out).frb (FrB.set b 0 w2 _) (by omega)
          · have hp : Lib.hasPrefix rest [93] = false := by
              cases rest with
              | nil => rfl
              | cons d rt =>
                have hd : d ≠ 93 := fun e => hc ⟨rt, by rw [e]⟩
                simp [Lib.hasPrefix, List.isPrefixOf, Ne.symm hd]
            have HC := Lib.hid hc
            clear hc
            go_wp2_with fail
            refine (Tryd.strings_HasPrefix _ _ _).mono ?_
            rintro e w2 ⟨rfl, rfl⟩
            go_wp2_with fail
            refine (fail_any hrd).mono ?_
            rintro e w3 ⟨rfl, hrd3, hf3⟩
            go_wp2_with fail
            go_ret
            exact ⟨.inr ⟨HW.out.fail1 Wm.textE_pf HX.out (by omega) HE.out (fun r' e => HC.out ⟨r', e⟩), rfl, hrd3⟩, hfb.trans hf3⟩
  · have HN := Lib.hid hn
    clear hn
    go_wp2_with fail
    go_loopw [6, 7] (fun v i wr => v = .slice none 0 0 ∧ i = .int .i64 0 ∧ wr = w1) (fun _ _ _ => 0)
    case atStart => exact ⟨rfl, rfl, rfl⟩
    case round =>
      obtain ⟨rfl, rfl, rfl⟩ := hrel
      have c0 := hrd1.c0
      go_wp2_with fail
      refine (Tryd.strings_HasPrefix _ _ _).mono ?_
      rintro e w2 ⟨rfl, rfl⟩
      go_wp2_with fail
      refine (fail_any hrd1).mono ?_
      rintro e w3 ⟨rfl, hrd3, hf3⟩
      go_wp2_with fail
      go_ret
      exact ⟨.inr ⟨list_none HN.out, rfl, hrd3⟩, hf1.trans hf3⟩

set_option maxHeartbeats 400000 in
theorem rNums_any {b : Nat} {r : List UInt8} {f : Bool} {w : World} (h : Rd 54 b r f w) (hr : r.length ≤ 4294967296) (hfr : f = true → r = []) :
    Calls Tryd.prog 31 #[.pointer (some ⟨b, 0, none⟩)] w fun e w' => GotL 54 b w.heap.size (Wm.intE 59) (Value.int .i64) r f e w' ∧ FrB b w w' := by
  have HF := Lib.hid hfr
  clear hfr
  go_enter Tryd.func31, Tryd.ntmps31
  go_wp2_with fail
  refine (readInts h hr HF.out).mono ?_
  rintro e w1 ⟨hg, hf1⟩
  rcases hg with ⟨l, r', v, hl, he, rfl, hsl, hrd⟩ | ⟨hn, rfl, hrd⟩
  · have HL := Lib.hid hl
    have HE := Lib.hid he
    have HS := Lib.hid hsl
    clear hl he hsl
    go_wp2_with fail
    go_ret
    exact ⟨.inl ⟨l, r', v, HL.out, HE.out, rfl, HS.out, hrd⟩, hf1⟩
  · have HN := Lib.hid hn
    clear hn
    go_wp2_with fail
    go_ret
    exact ⟨.inr ⟨HN.out, rfl, hrd⟩, hf1⟩

set_option maxHeartbeats 400000 in
theorem rTexts_any {b : Nat} {r : List UInt8} {f : Bool} {w : World} (h : Rd 54 b r f w) (hr : r.length ≤ 4294967296) (hfr : f = true → r = []) :
    Calls Tryd.prog 34 #[.pointer (some ⟨b, 0, none⟩)] w fun e w' => GotL 54 b w.heap.size Wm.textE (fun z => Value.string (S z)) r f e w' ∧ FrB b w w' := by
  have HF := Lib.hid hfr
  clear hfr
  go_enter Tryd.func34, Tryd.ntmps34
  go_wp2_with fail
  refine (readStrs h hr HF.out).mono ?_
  rintro e w1 ⟨hg, hf1⟩
  rcases hg with ⟨l, r', v, hl, he, rfl, hsl, hrd⟩ | ⟨hn, rfl, hrd⟩
  · have HL := Lib.hid hl
    have HE := Lib.hid he
    have HS := Lib.hid hsl
    clear hl he hsl
    go_wp2_with fail
    go_ret
    exact ⟨.inl ⟨l, r', v, HL.out, HE.out, rfl, HS.out, hrd⟩, hf1⟩
  · have HN := Lib.hid hn
    clear hn
    go_wp2_with fail
    go_ret
    exact ⟨.inr ⟨HN.out, rfl, hrd⟩, hf1⟩
end Go.Proofs.YtjabpagfoclajaaDoor
