/-
  Contracts: the methods of the reference's Reader.
-/
import Derived.Test.YtjcajgcfkidbkaaDoorBack
namespace Go.Proofs.YtjcajgcfkidbkaaDoor
open Go.RowKit

set_option maxHeartbeats 400000 in
set_option maxRecDepth 100000 in
theorem number_any {b : Nat} {r : List UInt8} {f : Bool} {w : World} (c : UInt8) (h : Rd 110 b r f w) (hr : r.length ≤ 4611686018427387904) (hc : ¬ Wm.isNum c) :
    Calls Tryd.prog 88 #[.pointer (some ⟨b, 0, none⟩), .int .u8 c.toNat] w fun e w' => Got 110 b (Wm.numE c) r f (fun n => .int .i64 n) (.int .i64 0) e w' ∧ FrB b w w' := by
  go_enter Tryd.func88, Tryd.ntmps88
  go_wp2_with fail
  refine (ahead_any c h hr hc).mono ?_
  rintro e w1 ⟨hg, hf1⟩
  rcases hg with ⟨v, r', hv, he, rfl, hrd⟩ | ⟨hn, rfl, hrd⟩
  · have HV := Lib.hid hv
    have HE := Lib.hid he
    clear hv he
    by_cases hneg : v < 0
    · go_wp2_with fail
      refine (rfail_any hrd).mono ?_
      rintro e w3 ⟨rfl, hrd3, hf3⟩
      go_wp2_with fail
      go_ret
      refine ⟨.inr ⟨fun u q hu e => ?_, rfl, hrd3⟩, hf1.trans hf3⟩
      have h1 := HE.out
      rw [e, Wm.numE_f, Wm.intE_f] at h1
      have h2 := Wm.itoa_split hc hc (by simpa using h1)
      have := hu.1
      omega
    · go_wp2_with fail
      go_ret
      exact ⟨.inl ⟨v, r', ⟨by omega, HV.out.2⟩, HE.out, rfl, hrd⟩, hf1⟩
  · have HN := Lib.hid hn
    clear hn
    go_wp2_with fail
    go_ret
    exact ⟨.inr ⟨fun u q hu e => HN.out u q hu.int e, rfl, hrd⟩, hf1⟩

set_option maxHeartbeats 400000 in
set_option maxRecDepth 100000 in
theorem qNum_any {b : Nat} {r : List UInt8} {f : Bool} {w : World} (h : Rd 110 b r f w) (hr : r.length ≤ 4611686018427387904) :
    Calls Tryd.prog 79 #[.pointer (some ⟨b, 0, none⟩)] w fun e w' => Got 110 b (Wm.numE 59) r f (fun n => .int .i64 n) (.int .i64 0) e w' ∧ FrB b w w' := by
  go_enter Tryd.func79, Tryd.ntmps79
  go_wp2_with fail
  refine (number_any 59 h hr (by decide)).mono ?_
  rintro e w' ⟨hg, hf⟩
  rcases hg with ⟨u, r', hu, he, rfl, hrd⟩ | ⟨hn, rfl, hrd⟩
  · have HE := Lib.hid he
    clear he
    go_wp2_with fail
    go_ret
    exact ⟨.inl ⟨u, r', hu, HE.out, rfl, hrd⟩, hf⟩
  · have HN := Lib.hid hn
    clear hn
    go_wp2_with fail
    go_ret
    exact ⟨.inr ⟨HN.out, rfl, hrd⟩, hf⟩

/-- A byte that is read. -/
def Shut (T b : Nat) (c : UInt8) (r : List UInt8) (f : Bool) (e : Ending) (w' : World) : Prop :=
  (∃ r', r = c :: r' ∧ e = .returned (.bool true) ∧ Rd T b r' f w') ∨ ((∀ r', r ≠ c :: r') ∧ e = .returned (.bool false) ∧ Rd T b [] true w')

set_option maxHeartbeats 400000 in
set_option maxRecDepth 100000 in
theorem close_any {b : Nat} {r : List UInt8} {f : Bool} {w : World} (c : UInt8) (h : Rd 110 b r f w) (hr : r.length ≤ 4611686018427387904) :
    Calls Tryd.prog 90 #[.pointer (some ⟨b, 0, none⟩), .int .u8 c.toNat] w fun e w' => Shut 110 b c r f e w' ∧ FrB b w w' := by
  have c0 := h.c0
  have f0 := h.f 0
  cases r with
  | nil =>
    go_enter Tryd.func90, Tryd.ntmps90
    go_wp2_with fail
    refine (rfail_any h).mono ?_
    rintro e w3 ⟨rfl, hrd3, hf3⟩
    go_wp2_with fail
    go_ret
    exact ⟨.inr ⟨by simp, rfl, hrd3⟩, hf3⟩
  | cons d rt =>
    have hb1 : (((rt.length : Int) + 1) == 0) = false := beq_eq_false_iff_ne.2 (by omega)
    have hx : (S (d :: rt)).extract 1 (rt.length + 1) = S rt := by rw [S_extract]; simp
    have HX := Lib.hid hx
    clear hx
    by_cases hd : d = c
    · have hb : ((d.toNat : Int) != (c.toNat : Int)) = false := by rw [hd]; simp
      have HD := Lib.hid hd
      have HSET := Lib.hid (h.set0 rt)
      clear hd
      go_enter Tryd.func90, Tryd.ntmps90
      go_wp2_with fail
      rw [HX.out]
      go_ret
      exact ⟨.inl ⟨rt, by rw [HD.out], rfl, HSET.out⟩, FrB.set b 0 w _⟩
    · have hb : ((d.toNat : Int) != (c.toNat : Int)) = true := by
        rw [bne_iff_ne]; intro e; exact hd (UInt8.toNat_inj.1 (Int.ofNat.inj e))
      have HD := Lib.hid hd
      clear hd
      go_enter Tryd.func90, Tryd.ntmps90
      go_wp2_with fail
      refine (rfail_any h).mono ?_
      rintro e w3 ⟨rfl, hrd3, hf3⟩
      go_wp2_with fail
      go_ret
      exact ⟨.inr ⟨fun r' e => HD.out (List.cons.inj e).1, rfl, hrd3⟩, hf3⟩

theorem text_good' {r r' q : List UInt8} {u : Nat} (hlt : u < r'.length) (hc : r'.drop u = 44 :: q) (he : r = (Wm.numE 58).f (u : Int) ++ r') : r = Wm.textE.f (r'.take u) ++ q := by
  have h1 : (r'.take u).length = u := by rw [List.length_take]; omega
  have h2 := List.take_append_drop u r'
  rw [hc] at h2
  rw [he, Wm.textE_f, Wm.numE_f, h1]
  conv => lhs; rw [← h2]
  simp
theorem text_bad' {r r' q v : List UInt8} {u : Nat} (he : r = (Wm.numE 58).f (u : Int) ++ r') (e : r = Wm.textE.f v ++ q) : u < r'.length ∧ r'.drop u = 44 :: q := by
  rw [he, Wm.numE_f, Wm.textE_f] at e
  obtain ⟨h1, _, h3⟩ := Wm.itoa_split (e := 58) (f := 58) (r := r') (s := v ++ 44 :: q) (by decide) (by decide) (by simpa using e)
  have h4 : u = v.length := by omega
  subst h4
  subst h3
  exact ⟨by simp, by simp⟩

set_option maxHeartbeats 1000000 in
set_option maxRecDepth 100000 in
theorem qText_any {b : Nat} {r : List UInt8} {f : Bool} {w : World} (h : Rd 110 b r f w) (hr : r.length ≤ 4611686018427387904) (hfr : f = true → r = []) :
    Calls Tryd.prog 78 #[.pointer (some ⟨b, 0, none⟩)] w fun e w' => Got 110 b Wm.textE r f (fun s => .string (S s)) (.string (S [])) e w' ∧ FrB b w w' := by
  have HF := Lib.hid hfr
  clear hfr
  go_enter Tryd.func78, Tryd.ntmps78
  go_wp2_with fail
  refine (number_any 58 h hr (by decide)).mono ?_
  rintro e w1 ⟨hg, hf⟩
  rcases hg with ⟨n, r', hn, he, rfl, hrd⟩ | ⟨hn, rfl, hrd⟩
  · have hff : f = false := by
      cases f with
      | false => rfl
      | true => rw [HF.out rfl] at he; have := congrArg List.length he; rw [Wm.numE_f] at this; simp at this
    subst hff
    obtain ⟨u, rfl⟩ : ∃ u : Nat, n = u := ⟨n.toNat, by have := hn.1; omega⟩
    have hlr := rest_le he
    have HE := Lib.hid he
    have hu : (u : Int) ≤ 9223372036854775807 := hn.2
    clear he hn
    have c0 := hrd.c0
    have c1 := hrd.c1
    have f0 := hrd.f 0
    by_cases hlt : u < r'.length
    · have hx : (S r').extract u r'.length = S (r'.drop u) := by rw [S_extract, List.take_of_length_le (by simp)]
      have HX := Lib.hid hx
      have hset := hrd.set0 (r'.drop u)
      have hfs := FrB.set b 0 w1 (.string (S (r'.drop u)))
      clear hx
      go_wp2_with fail
      rw [HX.out]
      generalize w1.setCell ⟨b, 0, none⟩ (.string (S (r'.drop u))) = w2 at *
      refine (close_any 44 hset (by simp; omega)).mono ?_
      rintro e w3 ⟨hcl, hf3⟩
      rcases hcl with ⟨q, hq, rfl, hrd3⟩ | ⟨hq, rfl, hrd3⟩
      · have HQ := Lib.hid hq
        clear hq
        go_wp2_with fail
        go_ret
        rw [S_extract]
        refine ⟨.inl ⟨r'.take u, q, text_dom hu, text_good' hlt HQ.out HE.out, ?_, hrd3⟩, hf.trans (hfs.trans hf3)⟩
        simp
      · have HQ := Lib.hid hq
        clear hq
        go_wp2_with fail
        go_ret
        exact ⟨.inr ⟨fun v q hv e => HQ.out q (text_bad' HE.out e).2, rfl, hrd3⟩, hf.trans (hfs.trans hf3)⟩
    · go_wp2_with fail
      refine (rfail_any hrd).mono ?_
      rintro e w3 ⟨rfl, hrd3, hf3⟩
      go_wp2_with fail
      go_ret
      exact ⟨.inr ⟨fun v q hv e => hlt (text_bad' HE.out e).1, rfl, hrd3⟩, hf.trans hf3⟩
  · have HN := Lib.hid hn
    have c1 := hrd.c1
    clear hn
    go_wp2_with fail
    refine (rfail_any hrd).mono ?_
    rintro e w3 ⟨rfl, hrd3, hf3⟩
    go_wp2_with fail
    go_ret
    refine ⟨.inr ⟨fun v q hv e => ?_, rfl, hrd3⟩, hf.trans hf3⟩
    exact HN.out v.length (v ++ 44 :: q) ⟨by omega, by have : v.length ≤ 9223372036854775807 := hv; omega⟩ (by rw [e, Wm.textE_f, Wm.numE_f]; simp)

set_option maxRecDepth 100000 in
theorem qleft_any {b : Nat} {r : List UInt8} {f : Bool} {w : World} (h : Rd 110 b r f w) :
    Calls Tryd.prog 77 #[.pointer (some ⟨b, 0, none⟩)] w fun e w' => e = .returned (.int .i64 r.length) ∧ w' = w := by
  have c0 := h.c0
  go_enter Tryd.func77, Tryd.ntmps77
  go_wp2
  go_ret
  exact ⟨rfl, rfl⟩
set_option maxRecDepth 100000 in
theorem qopen_any (s : List UInt8) (w : World) :
    Calls Tryd.prog 76 #[.string (S s)] w fun e w' => e = .returned (.pointer (some ⟨w.heap.size, 0, none⟩)) ∧ Rd 110 w.heap.size s false w' ∧ Fr w w' := by
  go_enter Tryd.func76, Tryd.ntmps76
  go_wp2
  go_ret
  refine ⟨rfl, ?_, Fr.alloc _ _⟩
  unfold Rd
  exact heap_alloc_new w _
end Go.Proofs.YtjcajgcfkidbkaaDoor
