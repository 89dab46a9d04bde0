/-
  Contracts: the methods of the reference's Reader.
-/
import Derived.Test.YtjabpagfoclajaaDoorBack
import Derived.Test.YtjabpagfoclajaaDoorRdl
namespace Go.Proofs.YtjabpagfoclajaaDoor
open Go.RowKit

set_option maxHeartbeats 400000 in
theorem number_any {b : Nat} {r : List UInt8} {f : Bool} {w : World} (c : UInt8) (h : Rd 56 b r f w) (hr : r.length ≤ 4611686018427387904) (hc : ¬ Wm.isNum c) :
    Calls Tryd.prog 49 #[.pointer (some ⟨b, 0, none⟩), .int .u8 c.toNat] w fun e w' => Got 56 b (Wm.numE c) r f (fun n => .int .i64 n) (.int .i64 0) e w' ∧ FrB b w w' := by
  go_enter Tryd.func49, Tryd.ntmps49
  go_wp2_with fail
  refine (ahead_any c h hr hc).mono ?_
  rintro e w1 ⟨hg, hf1⟩
  rcases hg with ⟨v, r', hv, he, rfl, hrd⟩ | ⟨hn, rfl, hrd⟩
  · have HV := Lib.hid hv
    have HE := Lib.hid he
    clear hv he
    by_cases hneg : v < 0
    · go_wp2_with fail
      refine (rfail_any hrd).mono ?_
      rintro e w3 ⟨rfl, hrd3, hf3⟩
      go_wp2_with fail
      go_ret
      refine ⟨.inr ⟨fun u q hu e => ?_, rfl, hrd3⟩, hf1.trans hf3⟩
      have h1 := HE.out
      rw [e, Wm.numE_f, Wm.intE_f] at h1
      have h2 := Wm.itoa_split hc hc (by simpa using h1)
      have := hu.1
      omega
    · go_wp2_with fail
      go_ret
      exact ⟨.inl ⟨v, r', ⟨by omega, HV.out.2⟩, HE.out, rfl, hrd⟩, hf1⟩
  · have HN := Lib.hid hn
    clear hn
    go_wp2_with fail
    go_ret
    exact ⟨.inr ⟨fun u q hu e => HN.out u q hu.int e, rfl, hrd⟩, hf1⟩

set_option maxHeartbeats 400000 in
theorem qNum_any {b : Nat} {r : List UInt8} {f : Bool} {w : World} (h : Rd 56 b r f w) (hr : r.length ≤ 4611686018427387904) :
    Calls Tryd.prog 25 #[.pointer (some ⟨b, 0, none⟩)] w fun e w' => Got 56 b (Wm.numE 59) r f (fun n => .int .i64 n) (.int .i64 0) e w' ∧ FrB b w w' := by
  go_enter Tryd.func25, Tryd.ntmps25
  go_wp2_with fail
  refine (number_any 59 h hr (by decide)).mono ?_
  rintro e w' ⟨hg, hf⟩
  rcases hg with ⟨u, r', hu, he, rfl, hrd⟩ | ⟨hn, rfl, hrd⟩
  · have HE := Lib.hid he
    clear he
    go_wp2_with fail
    go_ret
    exact ⟨.inl ⟨u, r', hu, HE.out, rfl, hrd⟩, hf⟩
  · have HN := Lib.hid hn
    clear hn
    go_wp2_with fail
    go_ret
    exact ⟨.inr ⟨HN.out, rfl, hrd⟩, hf⟩

set_option maxHeartbeats 400000 in
theorem qInt_any {b : Nat} {r : List UInt8} {f : Bool} {w : World} (h : Rd 56 b r f w) (hr : r.length ≤ 4611686018427387904) :
    Calls Tryd.prog 27 #[.pointer (some ⟨b, 0, none⟩)] w fun e w' => Got 56 b (Wm.intE 59) r f (fun n => .int .i64 n) (.int .i64 0) e w' ∧ FrB b w w' := by
  go_enter Tryd.func27, Tryd.ntmps27
  go_wp2_with fail
  refine (ahead_any 59 h hr (by decide)).mono ?_
  rintro e w' ⟨hg, hf⟩
  rcases hg with ⟨u, r', hu, he, rfl, hrd⟩ | ⟨hn, rfl, hrd⟩
  · have HE := Lib.hid he
    clear he
    go_wp2_with fail
    go_ret
    exact ⟨.inl ⟨u, r', hu, HE.out, rfl, hrd⟩, hf⟩
  · have HN := Lib.hid hn
    clear hn
    go_wp2_with fail
    go_ret
    exact ⟨.inr ⟨HN.out, rfl, hrd⟩, hf⟩

/-- A byte that is read. -/
def Shut (T b : Nat) (c : UInt8) (r : List UInt8) (f : Bool) (e : Ending) (w' : World) : Prop :=
  (∃ r', r = c :: r' ∧ e = .returned (.bool true) ∧ Rd T b r' f w') ∨ ((∀ r', r ≠ c :: r') ∧ e = .returned (.bool false) ∧ Rd T b [] true w')

set_option maxHeartbeats 400000 in
theorem close_any {b : Nat} {r : List UInt8} {f : Bool} {w : World} (c : UInt8) (h : Rd 56 b r f w) (hr : r.length ≤ 4611686018427387904) :
    Calls Tryd.prog 55 #[.pointer (some ⟨b, 0, none⟩), .int .u8 c.toNat] w fun e w' => Shut 56 b c r f e w' ∧ FrB b w w' := by
  have c0 := h.c0
  have f0 := h.f 0
  cases r with
  | nil =>
    go_enter Tryd.func55, Tryd.ntmps55
    go_wp2_with fail
    refine (rfail_any h).mono ?_
    rintro e w3 ⟨rfl, hrd3, hf3⟩
    go_wp2_with fail
    go_ret
    exact ⟨.inr ⟨by simp, rfl, hrd3⟩, hf3⟩
  | cons d rt =>
    have hb1 : (((rt.length : Int) + 1) == 0) = false := beq_eq_false_iff_ne.2 (by omega)
    have hx : (S (d :: rt)).extract 1 (rt.length + 1) = S rt := by rw [S_extract]; simp
    have HX := Lib.hid hx
    clear hx
    by_cases hd : d = c
    · have hb : ((d.toNat : Int) != (c.toNat : Int)) = false := by rw [hd]; simp
      have HD := Lib.hid hd
      have HSET := Lib.hid (h.set0 rt)
      clear hd
      go_enter Tryd.func55, Tryd.ntmps55
      go_wp2_with fail
      rw [HX.out]
      go_ret
      exact ⟨.inl ⟨rt, by rw [HD.out], rfl, HSET.out⟩, FrB.set b 0 w _⟩
    · have hb : ((d.toNat : Int) != (c.toNat : Int)) = true := by
        rw [bne_iff_ne]; intro e; exact hd (UInt8.toNat_inj.1 (Int.ofNat.inj e))
      have HD := Lib.hid hd
      clear hd
      go_enter Tryd.func55, Tryd.ntmps55
      go_wp2_with fail
      refine (rfail_any h).mono ?_
      rintro e w3 ⟨rfl, hrd3, hf3⟩
      go_wp2_with fail
      go_ret
      exact ⟨.inr ⟨fun r' e => HD.out (List.cons.inj e).1, rfl, hrd3⟩, hf3⟩

theorem text_good' {r r' q : List UInt8} {u : Nat} (hlt : u < r'.length) (hc : r'.drop u = 44 :: q) (he : r = (Wm.numE 58).f (u : Int) ++ r') : r = Wm.textE.f (r'.take u) ++ q := by
  have h1 : (r'.take u).length = u := by rw [List.length_take]; omega
  have h2 := List.take_append_drop u r'
  rw [hc] at h2
  rw [he, Wm.textE_f, Wm.numE_f, h1]
  conv => lhs; rw [← h2]
  simp
theorem text_bad' {r r' q v : List UInt8} {u : Nat} (he : r = (Wm.numE 58).f (u : Int) ++ r') (e : r = Wm.textE.f v ++ q) : u < r'.length ∧ r'.drop u = 44 :: q := by
  rw [he, Wm.numE_f, Wm.textE_f] at e
  obtain ⟨h1, _, h3⟩ := Wm.itoa_split (e := 58) (f := 58) (r := r') (s := v ++ 44 :: q) (by decide) (by decide) (by simpa using e)
  have h4 : u = v.length := by omega
  subst h4
  subst h3
  exact ⟨by simp, by simp⟩

set_option maxHeartbeats 1000000 in
theorem qText_any {b : Nat} {r : List UInt8} {f : Bool} {w : World} (h : Rd 56 b r f w) (hr : r.length ≤ 4611686018427387904) (hfr : f = true → r = []) :
    Calls Tryd.prog 29 #[.pointer (some ⟨b, 0, none⟩)] w fun e w' => Got 56 b Wm.textE r f (fun s => .string (S s)) (.string (S [])) e w' ∧ FrB b w w' := by
  have HF := Lib.hid hfr
  clear hfr
  go_enter Tryd.func29, Tryd.ntmps29
  go_wp2_with fail
  refine (number_any 58 h hr (by decide)).mono ?_
  rintro e w1 ⟨hg, hf⟩
  rcases hg with ⟨n, r', hn, he, rfl, hrd⟩ | ⟨hn, rfl, hrd⟩
  · have hff : f = false := by
      cases f with
      | false => rfl
      | true => rw [HF.out rfl] at he; have := congrArg List.length he; rw [Wm.numE_f] at this; simp at this
    subst hff
    obtain ⟨u, rfl⟩ : ∃ u : Nat, n = u := ⟨n.toNat, by have := hn.1; omega⟩
    have hlr := rest_le he
    have HE := Lib.hid he
    have hu : (u : Int) ≤ 9223372036854775807 := hn.2
    clear he hn
    have c0 := hrd.c0
    have c1 := hrd.c1
    have f0 := hrd.f 0
    by_cases hlt : u < r'.length
    · have hx : (S r').extract u r'.length = S (r'.drop u) := by rw [S_extract, List.take_of_length_le (by simp)]
      have HX := Lib.hid hx
      have hset := hrd.set0 (r'.drop u)
      have hfs := FrB.set b 0 w1 (.string (S (r'.drop u)))
      clear hx
      go_wp2_with fail
      rw [HX.out]
      generalize w1.setCell ⟨b, 0, none⟩ (.string (S (r'.drop u))) = w2 at *
      refine (close_any 44 hset (by simp; omega)).mono ?_
      rintro e w3 ⟨hcl, hf3⟩
      rcases hcl with ⟨q, hq, rfl, hrd3⟩ | ⟨hq, rfl, hrd3⟩
      · have HQ := Lib.hid hq
        clear hq
        go_wp2_with fail
        go_ret
        rw [S_extract]
        refine ⟨.inl ⟨r'.take u, q, text_dom hu, text_good' hlt HQ.out HE.out, ?_, hrd3⟩, hf.trans (hfs.trans hf3)⟩
        simp
      · have HQ := Lib.hid hq
        clear hq
        go_wp2_with fail
        go_ret
        exact ⟨.inr ⟨fun v q hv e => HQ.out q (text_bad' HE.out e).2, rfl, hrd3⟩, hf.trans (hfs.trans hf3)⟩
    · go_wp2_with fail
      refine (rfail_any hrd).mono ?_
      rintro e w3 ⟨rfl, hrd3, hf3⟩
      go_wp2_with fail
      go_ret
      exact ⟨.inr ⟨fun v q hv e => hlt (text_bad' HE.out e).1, rfl, hrd3⟩, hf.trans hf3⟩
  · have HN := Lib.hid hn
    have c1 := hrd.c1
    clear hn
    go_wp2_with fail
    refine (rfail_any hrd).mono ?_
    rintro e w3 ⟨rfl, hrd3, hf3⟩
    go_wp2_with fail
    go_ret
    refine ⟨.inr ⟨fun v q hv e => ?_, rfl, hrd3⟩, hf.trans hf3⟩
    exact HN.out v.length (v ++ 44 :: q) ⟨by omega, by have : v.length ≤ 9223372036854775807 := hv; omega⟩ (by rw [e, Wm.textE_f, Wm.numE_f]; simp)

theorem qleft_any {b : Nat} {r : List UInt8} {f : Bool} {w : World} (h : Rd 56 b r f w) :
    Calls Tryd.prog 37 #[.pointer (some ⟨b, 0, none⟩)] w fun e w' => e = .returned (.int .i64 r.length) ∧ w' = w := by
  have c0 := h.c0
  go_enter Tryd.func37, Tryd.ntmps37
  go_wp2
  go_ret
  exact ⟨rfl, rfl⟩
theorem qdone_any {b : Nat} {r : List UInt8} {f : Bool} {w : World} (h : Rd 56 b r f w) :
    Calls Tryd.prog 39 #[.pointer (some ⟨b, 0, none⟩)] w fun e w' => e = .returned (.bool (!f && decide (r = []))) ∧ w' = w := by
  have c0 := h.c0
  have c1 := h.c1
  cases f <;> cases r
  all_goals
    go_enter Tryd.func39, Tryd.ntmps39
    go_wp2
    go_ret
    exact ⟨rfl, rfl⟩
theorem qrest_any {b : Nat} {r : List UInt8} {f : Bool} {w : World} (h : Rd 56 b r f w) :
    Calls Tryd.prog 41 #[.pointer (some ⟨b, 0, none⟩)] w fun e w' => e = .returned (.string (S r)) ∧ Rd 56 b [] f w' ∧ FrB b w w' := by
  have c0 := h.c0
  have f0 := h.f 0
  have hs := h.set0 []
  go_enter Tryd.func41, Tryd.ntmps41
  go_wp2
  go_ret
  exact ⟨rfl, hs, FrB.set b 0 w _⟩
theorem qopen_any (s : List UInt8) (w : World) :
    Calls Tryd.prog 22 #[.string (S s)] w fun e w' => e = .returned (.pointer (some ⟨w.heap.size, 0, none⟩)) ∧ Rd 56 w.heap.size s false w' ∧ Fr w w' := by
  go_enter Tryd.func22, Tryd.ntmps22
  go_wp2
  go_ret
  refine ⟨rfl, ?_, Fr.alloc _ _⟩
  unfold Rd
  exact heap_alloc_new w _

set_option maxHeartbeats 2000000 in
theorem qNums_any {b : Nat} {r : List UInt8} {f : Bool} {w : World} (h : Rd 56 b r f w) (hr : r.length ≤ 4294967296) (hfr : f = true → r = []) :
    Calls Tryd.prog 32 #[.pointer (some ⟨b, 0, none⟩)] w fun e w' => GotL 56 b w.heap.size (Wm.intE 59) (Value.int .i64) r f e w' ∧ FrB b w w' := by
  obtain ⟨i0, hi, hz0, hz1, hz2⟩ := info_parts infoInt
  have hblt := h.lt
  go_enter Tryd.func32, Tryd.ntmps32
  go_wp2_with fail
  refine (number_any 91 h (by omega) (by decide)).mono ?_
  rintro e w1 ⟨hg, hf1⟩
  rcases hg with ⟨n, r1, hn, he, rfl, hrd1⟩ | ⟨hn, rfl, hrd1⟩
  · have hff : f = false := by
      cases f with
      | false => rfl
      | true => rw [hfr rfl] at he; have := congrArg List.length he; rw [Wm.numE_f] at this; simp at this
    have hr1 := rest_le he
    subst hff
    clear hfr
    have HE := Lib.hid he
    have hn0 := hn.1
    have hn1 := hn.2
    have HN := Lib.hid hn
    clear he hn
    go_wp2_with fail
    go_loopw [4, 5] (fun v i wr => ∃ k : Nat, i = .int .i64 k ∧ k ≤ r1.length + 1 ∧ Lst (Wm.intE 59) (Value.int .i64) 56 b w.heap.size 3 r1 n w k v wr) (fun _ i _ => r1.length + 1 - (intOf i).toNat)
    case atStart => exact ⟨0, rfl, Nat.zero_le _, [], r1, false, rfl, World.ownsRow_nil _ _ _ _, hrd1, hf1, Way.start _ _ hn0⟩
    case round =>
      obtain ⟨k, rfl, hk1, xs, rest, fl, hxk, hown, hrd, hfb, hway⟩ := hrel
      clear hrd1 hf1
      have c0 := hrd.c0
      have c1 := hrd.c1
      have f0 := hrd.f 0
      have hown0 := Lib.hid hown
      have HX := Lib.hid hxk
      clear hown hxk
      cases fl with
      | true =>
        have hrest := hway.nil
        subst hrest
        have HW := Lib.hid hway
        clear hway
        by_cases hlt : (k : Int) < n
        all_goals
          go_wp2_with fail
          go_ret
          exact ⟨.inr ⟨HW.out.fail2 HE.out, rfl, hrd⟩, hfb⟩
      | false =>
        have hcnt := hway.count intE_ne HX.out
        have HW := Lib.hid hway
        clear hway
        by_cases hlt : (k : Int) < n
        · go_wp2_with fail
          refine (qInt_any hrd (by omega)).mono ?_
          rintro e w2 ⟨hg, hf2⟩
          have hown2 := hown0.out.kept hf2 (.inr (fun e => by have := (hown0.out.lt b e).1; omega))
          have hfb2 := hfb.trans hf2
          have hsz := hfb2.size
          clear hfb hf2 hrd c0 c1 f0 hown0
          rcases hg with ⟨x, r2, hx, he2, rfl, hrd2⟩ | ⟨hx, rfl, hrd2⟩
          · have HW2 := Lib.hid (HW.out.good hlt hx he2)
            have hx2 := Lib.hid hx
            clear hx he2 HW
            go_wp2_with (at_builtin; refine wpList_append_own _ rfl _ _ 22 rfl w.heap.size 3 i0 (.int .i64 0) 1 8 Tryd.underlying22 hi hz0 hz1 hz2 rfl (by decide) _ _ _ rfl (hown2.alloc _) ⟨w2.heap.size, 0, none⟩ 1 1 [.int .i64 x] rfl rfl ?c1 ?c2 ?c3 ?c4 ?c5 ?_)
            case c1 =>
              intro j u hj
              match j, hj with
              | 0, hj => simp at hj; subst hj; simp [Addr.add]
            case c2 => intro u hu; simp at hu; subst hu; rfl
            case c3 => unfold maxLen; omega
            case c4 => omega
            case c5 => simp; omega
            intro v' w3 hown3 hgrow _
            have hlt3 := fun k hk => (hown2.lt k hk).1
            have hrd3 := (hrd2.fr (Fr.alloc w2 (.cells #[.int .i64 x] 3))).grown hgrow (fun e => by have := hlt3 b e.symm; omega)
            have hfb3 := (hfb2.alloc (.cells #[.int .i64 x] 3)).grown hgrow hlt3
            clear hown2 hgrow hlt3 hrd2 hfb2
            go_wp2_with fail
            go_roundw
            case rel => exact ⟨k + 1, by go_num, by omega, xs ++ [.int .i64 x], r2, false, by rw [List.length_append, HX.out]; rfl, hown3, hrd3, hfb3, HW2.out⟩
            case measure => simp [intOf]; omega
          · have HW2 := Lib.hid (HW.out.bad (xs' := xs ++ [.int .i64 0]) (Wm.intE_pf Wm.num59) HX.out hlt hx)
            clear hx HW
            go_wp2_with (at_builtin; refine wpList_append_own _ rfl _ _ 22 rfl w.heap.size 3 i0 (.int .i64 0) 1 8 Tryd.underlying22 hi hz0 hz1 hz2 rfl (by decide) _ _ _ rfl (hown2.alloc _) ⟨w2.heap.size, 0, none⟩ 1 1 [.int .i64 0] rfl rfl ?c1 ?c2 ?c3 ?c4 ?c5 ?_)
            case c1 =>
              intro j u hj
              match j, hj with
              | 0, hj => simp at hj; subst hj; simp [Addr.add]
            case c2 => intro u hu; simp at hu; subst hu; rfl
            case c3 => unfold maxLen; omega
            case c4 => omega
            case c5 => simp; omega
            intro v' w3 hown3 hgrow _
            have hlt3 := fun k hk => (hown2.lt k hk).1
            have hrd3 := (hrd2.fr (Fr.alloc w2 (.cells #[.int .i64 0] 3))).grown hgrow (fun e => by have := hlt3 b e.symm; omega)
            have hfb3 := (hfb2.alloc (.cells #[.int .i64 0] 3)).grown hgrow hlt3
            clear hown2 hgrow hlt3 hrd2 hfb2
            go_wp2_with fail
            go_roundw
            case rel => exact ⟨k + 1, by go_num, by omega, xs ++ [.int .i64 0], [], true, by rw [List.length_append, HX.out]; rfl, hown3, hrd3, hfb3, HW2.out⟩
            case measure => simp [intOf]; omega
        · go_wp2_with fail
          refine (close_any 93 hrd (by omega)).mono ?_
          rintro e w3 ⟨hcl, hf3⟩
          rcases hcl with ⟨q, hq, rfl, hrd3⟩ | ⟨hq, rfl, hrd3⟩
          · have HD := Lib.hid (HW.out.done HX.out (by omega) HN.out HE.out hq)
            clear hq
            go_wp2_with fail
            go_ret
            obtain ⟨l, hl1, hl2, hl3⟩ := HD.out
            refine ⟨.inl ⟨l, q, _, hl1, hl3, rfl, ?_, hrd3⟩, hfb.trans hf3⟩
            rw [← hl2]
            exact (IsSlB.own hown0.out).frb hf3 (by omega)
          · have HQ := Lib.hid hq
            clear hq
            go_wp2_with fail
            go_ret
            exact ⟨.inr ⟨HW.out.fail1 (Wm.intE_pf Wm.num59) HX.out (by omega) HE.out HQ.out, rfl, hrd3⟩, hfb.trans hf3⟩
  · have HN := Lib.hid hn
    clear hn
    go_wp2_with fail
    go_loopw [4, 5] (fun v i wr => v = .slice none 0 0 ∧ i = .int .i64 0 ∧ wr = w1) (fun _ _ _ => 0)
    case atStart => exact ⟨rfl, rfl, rfl⟩
    case round =>
      obtain ⟨rfl, rfl, rfl⟩ := hrel
      have c0 := hrd1.c0
      have c1 := hrd1.c1
      go_wp2_with fail
      go_ret
      exact ⟨.inr ⟨list_none HN.out, rfl, hrd1⟩, hf1⟩

set_option maxHeartbeats 2000000 in
theorem qTexts_any {b : Nat} {r : List UInt8} {f : Bool} {w : World} (h : Rd 56 b r f w) (hr : r.length ≤ 4294967296) (hfr : f = true → r = []) :
    Calls Tryd.prog 35 #[.pointer (some ⟨b, 0, none⟩)] w fun e w' => GotL 56 b w.heap.size Wm.textE (fun z => Value.string (S z)) r f e w' ∧ FrB b w w' := by
  obtain ⟨i0, hi, hz0, hz1, hz2⟩ := info_parts infoStr
  have hblt := h.lt
  go_enter Tryd.func35, Tryd.ntmps35
  go_wp2_with fail
  refine (number_any 91 h (by omega) (by decide)).mono ?_
  rintro e w1 ⟨hg, hf1⟩
  rcases hg with ⟨n, r1, hn, he, rfl, hrd1⟩ | ⟨hn, rfl, hrd1⟩
  · have hff : f = false := by
      cases f with
      | false => rfl
      | true => rw [hfr rfl] at he; have := congrArg List.length he; rw [Wm.numE_f] at this; simp at this
    have hr1 := rest_le he
    subst hff
    clear hfr
    have HE := Lib.hid he
    have hn0 := hn.1
    have hn1 := hn.2
    have HN := Lib.hid hn
    clear he hn
    go_wp2_with fail
    go_loopw [4, 5] (fun v i wr => ∃ k : Nat, i = .int .i64 k ∧ k ≤ r1.length + 1 ∧ Lst Wm.textE (fun z => Value.string (S z)) 56 b w.heap.size 9 r1 n w k v wr) (fun _ i _ => r1.length + 1 - (intOf i).toNat)
    case atStart => exact ⟨0, rfl, Nat.zero_le _, [], r1, false, rfl, World.ownsRow_nil _ _ _ _, hrd1, hf1, Way.start _ _ hn0⟩
    case round =>
      obtain ⟨k, rfl, hk1, xs, rest, fl, hxk, hown, hrd, hfb, hway⟩ := hrel
      clear hrd1 hf1
      have c0 := hrd.c0
      have c1 := hrd.c1
      have f0 := hrd.f 0
      have hown0 := Lib.hid hown
      have HX := Lib.hid hxk
      clear hown hxk
      cases fl with
      | true =>
        have hrest := hway.nil
        subst hrest
        have HW := Lib.hid hway
        clear hway
        by_cases hlt : (k : Int) < n
        all_goals
          go_wp2_with fail
          go_ret
          exact ⟨.inr ⟨HW.out.fail2 HE.out, rfl, hrd⟩, hfb⟩
      | false =>
        have hcnt := hway.count textE_ne HX.out
        have HW := Lib.hid hway
        clear hway
        by_cases hlt : (k : Int) < n
        · go_wp2_with fail
          refine (qText_any hrd (by omega) (by simp)).mono ?_
          rintro e w2 ⟨hg, hf2⟩
          have hown2 := hown0.out.kept hf2 (.inr (fun e => by have := (hown0.out.lt b e).1; omega))
          have hfb2 := hfb.trans hf2
          have hsz := hfb2.size
          clear hfb hf2 hrd c0 c1 f0 hown0
          rcases hg with ⟨x, r2, hx, he2, rfl, hrd2⟩ | ⟨hx, rfl, hrd2⟩
          · have HW2 := Lib.hid (HW.out.good hlt hx he2)
            have hx2 := Lib.hid hx
            clear hx he2 HW
            go_wp2_with (at_builtin; refine wpList_append_own _ rfl _ _ 23 rfl w.heap.size 9 i0 (.string (S [])) 1 16 Tryd.underlying23 hi hz0 hz1 hz2 rfl (by decide) _ _ _ rfl (hown2.alloc _) ⟨w2.heap.size, 0, none⟩ 1 1 [.string (S x)] rfl rfl ?c1 ?c2 ?c3 ?c4 ?c5 ?_)
            case c1 =>
              intro j u hj
              match j, hj with
              | 0, hj => simp at hj; subst hj; simp [Addr.add]
            case c2 => intro u hu; simp at hu; subst hu; rfl
            case c3 => unfold maxLen; omega
            case c4 => omega
            case c5 => simp; omega
            intro v' w3 hown3 hgrow _
            have hlt3 := fun k hk => (hown2.lt k hk).1
            have hrd3 := (hrd2.fr (Fr.alloc w2 (.cells #[.string (S x)] 9))).grown hgrow (fun e => by have := hlt3 b e.symm; omega)
            have hfb3 := (hfb2.alloc (.cells #[.string (S x)] 9)).grown hgrow hlt3
            clear hown2 hgrow hlt3 hrd2 hfb2
            go_wp2_with fail
            go_roundw
            case rel => exact ⟨k + 1, by go_num, by omega, xs ++ [.string (S x)], r2, false, by rw [List.length_append, HX.out]; rfl, hown3, hrd3, hfb3, HW2.out⟩
            case measure => simp [intOf]; omega
          · have HW2 := Lib.hid (HW.out.bad (xs' := xs ++ [.string (S [])]) Wm.textE_pf HX.out hlt hx)
            clear hx HW
            go_wp2_with (at_builtin; refine wpList_append_own _ rfl _ _ 23 rfl w.heap.size 9 i0 (.string (S [])) 1 16 Tryd.underlying23 hi hz0 hz1 hz2 rfl (by decide) _ _ _ rfl (hown2.alloc _) ⟨w2.heap.size, 0, none⟩ 1 1 [.string (S [])] rfl rfl ?c1 ?c2 ?c3 ?c4 ?c5 ?_)
            case c1 =>
              intro j u hj
              match j, hj with
              | 0, hj => simp at hj; subst hj; simp [Addr.add]
            case c2 => intro u hu; simp at hu; subst hu; rfl
            case c3 => unfold maxLen; omega
            case c4 => omega
            case c5 => simp; omega
            intro v' w3 hown3 hgrow _
            have hlt3 := fun k hk => (hown2.lt k hk).1
            have hrd3 := (hrd2.fr (Fr.alloc w2 (.cells #[.string (S [])] 9))).grown hgrow (fun e => by have := hlt3 b e.symm; omega)
            have hfb3 := (hfb2.alloc (.cells #[.string (S [])] 9)).grown hgrow hlt3
            clear hown2 hgrow hlt3 hrd2 hfb2
            go_wp2_with fail
            go_roundw
            case rel => exact ⟨k + 1, by go_num, by omega, xs ++ [.string (S [])], [], true, by rw [List.length_append, HX.out]; rfl, hown3, hrd3, hfb3, HW2.out⟩
            case measure => simp [intOf]; omega
        · go_wp2_with fail
          refine (close_any 93 hrd (by omega)).mono ?_
          rintro e w3 ⟨hcl, hf3⟩
          rcases hcl with ⟨q, hq, rfl, hrd3⟩ | ⟨hq, rfl, hrd3⟩
          · have HD := Lib.hid (HW.out.done HX.out (by omega) HN.out HE.out hq)
            clear hq
            go_wp2_with fail
            go_ret
            obtain ⟨l, hl1, hl2, hl3⟩ := HD.out
            refine ⟨.inl ⟨l, q, _, hl1, hl3, rfl, ?_, hrd3⟩, hfb.trans hf3⟩
            rw [← hl2]
            exact (IsSlB.own hown0.out).frb hf3 (by omega)
          · have HQ := Lib.hid hq
            clear hq
            go_wp2_with fail
            go_ret
            exact ⟨.inr ⟨HW.out.fail1 Wm.textE_pf HX.out (by omega) HE.out HQ.out, rfl, hrd3⟩, hfb.trans hf3⟩
  · have HN := Lib.hid hn
    clear hn
    go_wp2_with fail
    go_loopw [4, 5] (fun v i wr => v = .slice none 0 0 ∧ i = .int .i64 0 ∧ wr = w1) (fun _ _ _ => 0)
    case atStart => exact ⟨rfl, rfl, rfl⟩
    case round =>
      obtain ⟨rfl, rfl, rfl⟩ := hrel
      have c0 := hrd1.c0
      have c1 := hrd1.c1
      go_wp2_with fail
      go_ret
      exact ⟨.inr ⟨list_none HN.out, rfl, hrd1⟩, hf1⟩
end Go.Proofs.YtjabpagfoclajaaDoor
