/-
  Contracts: count, Num, Int, Text, Left, Done, Rest and Open of wire.Reader.
-/
import Derived.Test.YthppefkamklakaaDoorRdr
namespace Go.Proofs.YthppefkamklakaaDoor
open Go.RowKit

theorem dig_num {e : UInt8} {u : Nat} : (digE 9223372036854775807 e).f u = (Wm.numE e).f u := by
  rw [Wm.numE_f, Lib.itoa_nonneg]; rfl

set_option maxHeartbeats 400000 in
set_option maxRecDepth 100000 in
theorem count_any {b : Nat} {r : List UInt8} {f : Bool} {w : World} (c : UInt8) (h : Rd 114 b r f w) (hr : r.length ≤ 9223372036854775807) (hc : ¬ Wm.isDig c) :
    Calls Tryd.prog 57 #[.pointer (some ⟨b, 0, none⟩), .int .u8 c.toNat] w fun e w' => Got 114 b (Wm.numE c) r f (fun n => .int .i64 n) (.int .i64 0) e w' ∧ FrB b w w' := by
  go_enter Tryd.func57, Tryd.ntmps57
  go_wp2_with fail
  refine (digits_any 9223372036854775807 c h hr (by omega) (by omega) hc).mono ?_
  rintro e w' ⟨hg, hf⟩
  rcases hg with ⟨u, r', hu, he, rfl, hrd⟩ | ⟨hn, rfl, hrd⟩
  · have hu1 : (u : Int) ≤ 9223372036854775807 := by simp only [digE] at hu; omega
    have HE := Lib.hid he
    clear hu he
    go_wp2_with fail
    go_ret
    exact ⟨.inl ⟨u, r', ⟨by omega, hu1⟩, by rw [← dig_num]; exact HE.out, rfl, hrd⟩, hf⟩
  · have HN := Lib.hid hn
    clear hn
    go_wp2_with fail
    go_ret
    refine ⟨.inr ⟨fun v r' hv e => ?_, rfl, hrd⟩, hf⟩
    obtain ⟨u, rfl⟩ : ∃ u : Nat, v = u := ⟨v.toNat, by have := hv.1; omega⟩
    exact HN.out u r' (by have := hv.2; simp only [digE]; omega) (by rw [dig_num]; exact e)

set_option maxHeartbeats 400000 in
set_option maxRecDepth 100000 in
theorem rNum_any {b : Nat} {r : List UInt8} {f : Bool} {w : World} (h : Rd 114 b r f w) (hr : r.length ≤ 9223372036854775807) :
    Calls Tryd.prog 42 #[.pointer (some ⟨b, 0, none⟩)] w fun e w' => Got 114 b (Wm.numE 59) r f (fun n => .int .i64 n) (.int .i64 0) e w' ∧ FrB b w w' := by
  go_enter Tryd.func42, Tryd.ntmps42
  go_wp2_with fail
  refine (count_any 59 h hr (by decide)).mono ?_
  rintro e w' ⟨hg, hf⟩
  rcases hg with ⟨u, r', hu, he, rfl, hrd⟩ | ⟨hn, rfl, hrd⟩
  · have HE := Lib.hid he
    clear he
    go_wp2_with fail
    go_ret
    exact ⟨.inl ⟨u, r', hu, HE.out, rfl, hrd⟩, hf⟩
  · have HN := Lib.hid hn
    clear hn
    go_wp2_with fail
    go_ret
    exact ⟨.inr ⟨HN.out, rfl, hrd⟩, hf⟩

theorem rest_le {r r' l : List UInt8} (h : r = l ++ r') : r'.length ≤ r.length := by rw [h]; simp

theorem text_dom {u : Nat} {l : List UInt8} (hu : (u : Int) ≤ 9223372036854775807) : Wm.textE.dom (l.take u) := by
  show (l.take u).length ≤ 9223372036854775807
  rw [List.length_take]; omega
theorem text_good {r r' : List UInt8} {u : Nat} (hlt : u < r'.length) (hc : r'[u] = 44) (he : r = (Wm.numE 58).f (u : Int) ++ r') : r = Wm.textE.f (r'.take u) ++ r'.drop (u + 1) := by
  have h1 : (r'.take u).length = u := by rw [List.length_take]; omega
  have h2 := Wm.split_take r' u hlt
  rw [hc] at h2
  rw [he, Wm.textE_f, Wm.numE_f, h1]
  conv => lhs; rw [h2]
  simp
theorem text_bad {r r' q v : List UInt8} {u : Nat} (he : r = (Wm.numE 58).f (u : Int) ++ r') (e : r = Wm.textE.f v ++ q) : ∃ h : u < r'.length, r'[u] = 44 := by
  rw [he, Wm.numE_f, Wm.textE_f] at e
  obtain ⟨h1, _, h3⟩ := Wm.itoa_split (e := 58) (f := 58) (r := r') (s := v ++ 44 :: q) (by decide) (by decide) (by simpa using e)
  have h4 : u = v.length := by omega
  subst h4
  subst h3
  exact ⟨by simp, by simp⟩

set_option maxHeartbeats 400000 in
set_option maxRecDepth 100000 in
theorem rText_any {b : Nat} {r : List UInt8} {f : Bool} {w : World} (h : Rd 114 b r f w) (hr : r.length ≤ 9223372036854775807) :
    Calls Tryd.prog 43 #[.pointer (some ⟨b, 0, none⟩)] w fun e w' => Got 114 b Wm.textE r f (fun s => .string (S s)) (.string (S [])) e w' ∧ FrB b w w' := by
  go_enter Tryd.func43, Tryd.ntmps43
  go_wp2_with fail
  refine (count_any 58 h hr (by decide)).mono ?_
  rintro e w1 ⟨hg, hf⟩
  rcases hg with ⟨n, r', hn, he, rfl, hrd⟩ | ⟨hn, rfl, hrd⟩
  · obtain ⟨u, rfl⟩ : ∃ u : Nat, n = u := ⟨n.toNat, by have := hn.1; omega⟩
    have hlr := rest_le he
    have HE := Lib.hid he
    have hu : (u : Int) ≤ 9223372036854775807 := hn.2
    clear he hn
    have c0 := hrd.c0
    have f0 := hrd.f 0
    by_cases good : ∃ h : u < r'.length, r'[u] = 44
    · obtain ⟨hlt, hc⟩ := good
      have hb : (((r'[u]).toNat : Int) != 44) = false := by rw [hc]; rfl
      have HC := Lib.hid hc
      have hset := Lib.hid (hrd.set0 (r'.drop (u + 1)))
      clear hc
      go_wp2_with fail
      go_ret
      rw [S_extract, S_extract]
      have hs : r'.drop (u + 1) = (r'.drop (u + 1)).take (r'.length - (u + 1)) := (List.take_of_length_le (by simp)).symm
      rw [← hs]
      refine ⟨.inl ⟨r'.take u, r'.drop (u + 1), text_dom hu, text_good hlt HC.out HE.out, ?_, hset.out⟩, hf.trans (FrB.set b 0 w1 _)⟩
      simp
    · have hcase : ¬ u < r'.length ∨ ∃ h : u < r'.length, (((r'[u]).toNat : Int) != 44) = true := by
        by_cases hlt : u < r'.length
        · refine .inr ⟨hlt, ?_⟩
          rw [bne_iff_ne]
          intro e
          exact good ⟨hlt, UInt8.toNat_inj.1 (Int.ofNat.inj e)⟩
        · exact .inl hlt
      have HG := Lib.hid good
      clear good
      rcases hcase with hge | ⟨hlt, hb⟩
      all_goals
        go_wp2_with fail
        refine (fail_any hrd).mono ?_
        rintro e w3 ⟨rfl, hrd3, hf3⟩
        go_wp2_with fail
        go_ret
        exact ⟨.inr ⟨fun v q hv e => HG.out (text_bad HE.out e), rfl, hrd3⟩, hf.trans hf3⟩
  · have HN := Lib.hid hn
    have c0 := hrd.c0
    clear hn
    go_wp2_with fail
    refine (fail_any hrd).mono ?_
    rintro e w3 ⟨rfl, hrd3, hf3⟩
    go_wp2_with fail
    go_ret
    refine ⟨.inr ⟨fun v q hv e => ?_, rfl, hrd3⟩, hf.trans hf3⟩
    exact HN.out v.length (v ++ 44 :: q) ⟨by omega, by have : v.length ≤ 9223372036854775807 := hv; omega⟩ (by rw [e, Wm.textE_f, Wm.numE_f]; simp)

set_option maxRecDepth 100000 in
theorem left_any {b : Nat} {r : List UInt8} {f : Bool} {w : World} (h : Rd 114 b r f w) :
    Calls Tryd.prog 54 #[.pointer (some ⟨b, 0, none⟩)] w fun e w' => e = .returned (.int .i64 r.length) ∧ w' = w := by
  have c0 := h.c0
  go_enter Tryd.func54, Tryd.ntmps54
  go_wp2
  go_ret
  exact ⟨rfl, rfl⟩
set_option maxRecDepth 100000 in
theorem done_any {b : Nat} {r : List UInt8} {f : Bool} {w : World} (h : Rd 114 b r f w) :
    Calls Tryd.prog 44 #[.pointer (some ⟨b, 0, none⟩)] w fun e w' => e = .returned (.bool (!f && decide (r = []))) ∧ w' = w := by
  have c0 := h.c0
  have c1 := h.c1
  cases f <;> cases r
  all_goals
    go_enter Tryd.func44, Tryd.ntmps44
    go_wp2
    go_ret
    exact ⟨rfl, rfl⟩
set_option maxRecDepth 100000 in
theorem wopen_any (s : List UInt8) (w : World) :
    Calls Tryd.prog 41 #[.string (S s)] w fun e w' => e = .returned (.pointer (some ⟨w.heap.size, 0, none⟩)) ∧ Rd 114 w.heap.size s false w' ∧ Fr w w' := by
  go_enter Tryd.func41, Tryd.ntmps41
  go_wp2
  go_ret
  refine ⟨rfl, ?_, Fr.alloc _ _⟩
  unfold Rd
  exact heap_alloc_new w _
end Go.Proofs.YthppefkamklakaaDoor
