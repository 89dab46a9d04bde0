/-
  The walk of WireAgain.
-/
import Derived.Test.YtjabpagfoclajaaDoorLawR
namespace Go.Proofs.YtjabpagfoclajaaDoor
open Go.RowKit

theorem list_flat {α : Type} {E : Wm.Enc α} {l : List α} {q r : List UInt8} (e : r = (Wm.listE E).f l ++ q) : (l.flatMap E.f).length ≤ r.length := by
  rw [e, Wm.listE_f]; simp only [List.length_append, List.length_cons]; omega
theorem text_in {l : List (List UInt8)} {n : Nat} (h : (l.flatMap Wm.textE.f).length ≤ n) {z : List UInt8} (hz : z ∈ l) (hn : n ≤ 400) : z.length ≤ 4611686018427387904 := by
  obtain ⟨k, hk, rfl⟩ := List.mem_iff_getElem.1 hz
  have h1 := flat_get_le Wm.textE.f l k hk
  have h2 : (Wm.textE.f l[k]).length = (Lib.itoa l[k].length).length + (l[k].length + 2) := by simp [Wm.textE_f]
  omega
theorem again_full {t s : List UInt8} (h : s = t ++ []) : (t == ((S s).extract 0 s.length).toList) = true := by
  rw [S_extract, S_toList, h]; simp
theorem again_part {t q s : List UInt8} (h : s = t ++ q) : (t == ((S s).extract 0 (max 0 (min ((s.length : Int) - (q.length : Int)) (s.length : Int))).toNat).toList) = true := by
  have hn : (max 0 (min ((s.length : Int) - (q.length : Int)) (s.length : Int))).toNat = t.length := by rw [h, List.length_append]; omega
  rw [hn, S_extract, S_toList, h]; simp

set_option maxHeartbeats 4000000 in
set_option maxRecDepth 100000 in
theorem again_at (s : List UInt8) (k : Int) (w : World) (hs : s.length ≤ 400) (hk : Wm.inInt k) (ht : Tab w) :
    Calls Tryd.prog 6 #[.string (S s), .int .i64 k] w fun e w' => e = .returned (.bool true) ∧ Fr w w' := by
  go_enter Tryd.func6, Tryd.ntmps6
  go_wp2_with fail
  refine (small_any _ ht).mono ?_
  rintro e w1 ⟨rfl, hf1⟩
  have ht1 := ht.fr hf1
  go_wp2_with fail
  refine (open_any s _).mono ?_
  rintro e w2 ⟨rfl, hrd2, hf2⟩
  have ht2 := ht1.fr hf2
  have ha : w1.heap.size ≠ 0 := by have := ht1.lt; omega
  have hw2 : Below w.heap.size w w2 := (hf1.trans hf2).below
  have hwa := hf1.size
  clear hf2 hf1 ht ht1
  generalize w1.heap.size = a at *
  go_wp2_with fail
  refine (kind_any (V.ofKind k) _ (V.ofKind_ok hk _)).mono ?_
  rintro e w4 ⟨rfl, hf4⟩
  have hrd4 := hrd2.fr hf4
  have ht4 := ht2.fr hf4
  have hw4 := hw2.trans (hf4.to hw2.size)
  have hkl := (V.ofKind k).kind_lt
  generalize (V.ofKind k).kind = kk at *
  have hcase : kk = 0 ∨ kk = 1 ∨ kk = 2 ∨ kk = 3 ∨ kk = 4 := by omega
  clear hkl hrd2 ht2 hf4 hw2
  rcases hcase with rfl | rfl | rfl | rfl | rfl
  · go_wp2_with fail
    refine (rNum_any hrd4 (by omega)).mono ?_
    rintro e w5 ⟨hg, hf5⟩
    have ht5 := ht4.frb hf5 ha
    have hw5 := hw4.trans (hf5.below hwa hw4.size)
    rcases hg with ⟨x, q, hx, he, rfl, hrd5⟩ | ⟨hn, rfl, hrd5⟩
    · have hql := rest_le he
      have HX := Lib.hid hx
      have HE := Lib.hid he
      have hx0 := hx.1
      have hx1 := hx.2
      clear hx he
      go_wp2_with fail
      refine (num_any x _ hx0 hx1 ht5).mono ?_
      rintro e w6 ⟨rfl, hf6⟩
      have hrd6 := hrd5.fr hf6
      have hw6 := hw5.trans (hf6.to hw5.size)
      clear hrd5 hrd4 ht4 ht5 hw4 hw5 hf5 hf6
      go_wp2_with fail
      refine (left_any hrd6).mono ?_
      rintro e w7 ⟨rfl, rfl⟩
      by_cases hq : q = []
      · subst hq
        go_wp2_with fail
        refine (done_any hrd6).mono ?_
        rintro e w7 ⟨rfl, rfl⟩
        go_wp2_with fail
        refine (left_any hrd6).mono ?_
        rintro e w7 ⟨rfl, rfl⟩
        go_wp2_with fail
        go_ret
        exact ⟨congrArg (fun b => Ending.returned (.bool b)) (again_full HE.out), .of_below hw6⟩
      · have hqp : 0 < q.length := List.length_pos_iff.2 hq
        have hb : ((q.length : Int) == 0) = false := beq_eq_false_iff_ne.2 (by omega)
        go_wp2_with fail
        refine (left_any hrd6).mono ?_
        rintro e w7 ⟨rfl, rfl⟩
        go_wp2_with fail
        go_ret
        exact ⟨congrArg (fun b => Ending.returned (.bool b)) (again_part HE.out), .of_below hw6⟩
    · clear hn
      go_wp2_with fail
      refine (num_any 0 _ (by omega) (by omega) ht5).mono ?_
      rintro e w6 ⟨rfl, hf6⟩
      have hrd6 := hrd5.fr hf6
      have hw6 := hw5.trans (hf6.to hw5.size)
      clear hrd5 hrd4 ht4 ht5 hw4 hw5 hf5 hf6
      go_wp2_with fail
      refine (left_any hrd6).mono ?_
      rintro e w7 ⟨rfl, rfl⟩
      go_wp2_with fail
      refine (done_any hrd6).mono ?_
      rintro e w7 ⟨rfl, rfl⟩
      go_wp2_with fail
      go_ret
      exact ⟨rfl, .of_below hw6⟩
  · go_wp2_with fail
    refine (rInt_any hrd4 (by omega)).mono ?_
    rintro e w5 ⟨hg, hf5⟩
    have ht5 := ht4.frb hf5 ha
    have hw5 := hw4.trans (hf5.below hwa hw4.size)
    rcases hg with ⟨x, q, hx, he, rfl, hrd5⟩ | ⟨hn, rfl, hrd5⟩
    · have hql := rest_le he
      have HX := Lib.hid hx
      have HE := Lib.hid he
      have hx0 := hx.1
      have hx1 := hx.2
      clear hx he
      go_wp2_with fail
      refine (int_any x _ hx0 hx1 ht5).mono ?_
      rintro e w6 ⟨rfl, hf6⟩
      have hrd6 := hrd5.fr hf6
      have hw6 := hw5.trans (hf6.to hw5.size)
      clear hrd5 hrd4 ht4 ht5 hw4 hw5 hf5 hf6
      go_wp2_with fail
      refine (left_any hrd6).mono ?_
      rintro e w7 ⟨rfl, rfl⟩
      by_cases hq : q = []
      · subst hq
        go_wp2_with fail
        refine (done_any hrd6).mono ?_
        rintro e w7 ⟨rfl, rfl⟩
        go_wp2_with fail
        refine (left_any hrd6).mono ?_
        rintro e w7 ⟨rfl, rfl⟩
        go_wp2_with fail
        go_ret
        exact ⟨congrArg (fun b => Ending.returned (.bool b)) (again_full HE.out), .of_below hw6⟩
      · have hqp : 0 < q.length := List.length_pos_iff.2 hq
        have hb : ((q.length : Int) == 0) = false := beq_eq_false_iff_ne.2 (by omega)
        go_wp2_with fail
        refine (left_any hrd6).mono ?_
        rintro e w7 ⟨rfl, rfl⟩
        go_wp2_with fail
        go_ret
        exact ⟨congrArg (fun b => Ending.returned (.bool b)) (again_part HE.out), .of_below hw6⟩
    · clear hn
      go_wp2_with fail
      refine (int_any 0 _ (by omega) (by omega) ht5).mono ?_
      rintro e w6 ⟨rfl, hf6⟩
      have hrd6 := hrd5.fr hf6
      have hw6 := hw5.trans (hf6.to hw5.size)
      clear hrd5 hrd4 ht4 ht5 hw4 hw5 hf5 hf6
      go_wp2_with fail
      refine (left_any hrd6).mono ?_
      rintro e w7 ⟨rfl, rfl⟩
      go_wp2_with fail
      refine (done_any hrd6).mono ?_
      rintro e w7 ⟨rfl, rfl⟩
      go_wp2_with fail
      go_ret
      exact ⟨rfl, .of_below hw6⟩
  · go_wp2_with fail
    refine (rText_any hrd4 (by omega)).mono ?_
    rintro e w5 ⟨hg, hf5⟩
    have ht5 := ht4.frb hf5 ha
    have hw5 := hw4.trans (hf5.below hwa hw4.size)
    rcases hg with ⟨x, q, hx, he, rfl, hrd5⟩ | ⟨hn, rfl, hrd5⟩
    · have hql := rest_le he
      have HX := Lib.hid hx
      have HE := Lib.hid he
      have hxl : x.length ≤ 400 := by have h1 := congrArg List.length he; rw [Wm.textE_f] at h1; simp only [List.length_append, List.length_cons] at h1; omega
      clear hx he
      go_wp2_with fail
      refine (text_any x _ (by omega) ht5).mono ?_
      rintro e w6 ⟨rfl, hf6⟩
      have hrd6 := hrd5.fr hf6
      have hw6 := hw5.trans (hf6.to hw5.size)
      clear hrd5 hrd4 ht4 ht5 hw4 hw5 hf5 hf6
      go_wp2_with fail
      refine (left_any hrd6).mono ?_
      rintro e w7 ⟨rfl, rfl⟩
      by_cases hq : q = []
      · subst hq
        go_wp2_with fail
        refine (done_any hrd6).mono ?_
        rintro e w7 ⟨rfl, rfl⟩
        go_wp2_with fail
        refine (left_any hrd6).mono ?_
        rintro e w7 ⟨rfl, rfl⟩
        go_wp2_with fail
        go_ret
        exact ⟨congrArg (fun b => Ending.returned (.bool b)) (again_full HE.out), .of_below hw6⟩
      · have hqp : 0 < q.length := List.length_pos_iff.2 hq
        have hb : ((q.length : Int) == 0) = false := beq_eq_false_iff_ne.2 (by omega)
        go_wp2_with fail
        refine (left_any hrd6).mono ?_
        rintro e w7 ⟨rfl, rfl⟩
        go_wp2_with fail
        go_ret
        exact ⟨congrArg (fun b => Ending.returned (.bool b)) (again_part HE.out), .of_below hw6⟩
    · clear hn
      go_wp2_with fail
      refine (text_any [] _ (by simp) ht5).mono ?_
      rintro e w6 ⟨rfl, hf6⟩
      have hrd6 := hrd5.fr hf6
      have hw6 := hw5.trans (hf6.to hw5.size)
      clear hrd5 hrd4 ht4 ht5 hw4 hw5 hf5 hf6
      go_wp2_with fail
      refine (left_any hrd6).mono ?_
      rintro e w7 ⟨rfl, rfl⟩
      go_wp2_with fail
      refine (done_any hrd6).mono ?_
      rintro e w7 ⟨rfl, rfl⟩
      go_wp2_with fail
      go_ret
      exact ⟨rfl, .of_below hw6⟩
  · go_wp2_with fail
    refine (rNums_any hrd4 (by omega) (by simp)).mono ?_
    rintro e w5 ⟨hg, hf5⟩
    have ht5 := ht4.frb hf5 ha
    have hw5 := hw4.trans (hf5.below hwa hw4.size)
    rcases hg with ⟨x, q, y, hx, he, rfl, hsl, hrd5⟩ | ⟨hn, rfl, hrd5⟩
    · have hql := rest_le he
      have HX := Lib.hid hx
      have HE := Lib.hid he
      have HS := Lib.hid hsl
      have hxl := list_le intE_ne he
      have hxf := list_flat he
      clear hsl
      clear hx he
      go_wp2_with fail
      refine (nums_any _ x _ HS.out.sl (by omega) (by omega) HX.out.2 ht5).mono ?_
      rintro e w6 ⟨rfl, hf6⟩
      have hrd6 := hrd5.fr hf6
      have hw6 := hw5.trans (hf6.to hw5.size)
      clear hrd5 hrd4 ht4 ht5 hw4 hw5 hf5 hf6
      go_wp2_with fail
      refine (left_any hrd6).mono ?_
      rintro e w7 ⟨rfl, rfl⟩
      by_cases hq : q = []
      · subst hq
        go_wp2_with fail
        refine (done_any hrd6).mono ?_
        rintro e w7 ⟨rfl, rfl⟩
        go_wp2_with fail
        refine (left_any hrd6).mono ?_
        rintro e w7 ⟨rfl, rfl⟩
        go_wp2_with fail
        go_ret
        exact ⟨congrArg (fun b => Ending.returned (.bool b)) (again_full HE.out), .of_below hw6⟩
      · have hqp : 0 < q.length := List.length_pos_iff.2 hq
        have hb : ((q.length : Int) == 0) = false := beq_eq_false_iff_ne.2 (by omega)
        go_wp2_with fail
        refine (left_any hrd6).mono ?_
        rintro e w7 ⟨rfl, rfl⟩
        go_wp2_with fail
        go_ret
        exact ⟨congrArg (fun b => Ending.returned (.bool b)) (again_part HE.out), .of_below hw6⟩
    · clear hn
      go_wp2_with fail
      refine (nums_any _ [] _ (.inl ⟨rfl, _, _, rfl⟩) (by simp) (by simp) (by simp) ht5).mono ?_
      rintro e w6 ⟨rfl, hf6⟩
      have hrd6 := hrd5.fr hf6
      have hw6 := hw5.trans (hf6.to hw5.size)
      clear hrd5 hrd4 ht4 ht5 hw4 hw5 hf5 hf6
      go_wp2_with fail
      refine (left_any hrd6).mono ?_
      rintro e w7 ⟨rfl, rfl⟩
      go_wp2_with fail
      refine (done_any hrd6).mono ?_
      rintro e w7 ⟨rfl, rfl⟩
      go_wp2_with fail
      go_ret
      exact ⟨rfl, .of_below hw6⟩
  · go_wp2_with fail
    refine (rTexts_any hrd4 (by omega) (by simp)).mono ?_
    rintro e w5 ⟨hg, hf5⟩
    have ht5 := ht4.frb hf5 ha
    have hw5 := hw4.trans (hf5.below hwa hw4.size)
    rcases hg with ⟨x, q, y, hx, he, rfl, hsl, hrd5⟩ | ⟨hn, rfl, hrd5⟩
    · have hql := rest_le he
      have HX := Lib.hid hx
      have HE := Lib.hid he
      have HS := Lib.hid hsl
      have hxl := list_le textE_ne he
      have hxf := list_flat he
      clear hsl
      clear hx he
      go_wp2_with fail
      refine (texts_any _ x _ HS.out.sl (by omega) (by omega) (fun z hz => text_in hxf hz (by omega)) ht5).mono ?_
      rintro e w6 ⟨rfl, hf6⟩
      have hrd6 := hrd5.fr hf6
      have hw6 := hw5.trans (hf6.to hw5.size)
      clear hrd5 hrd4 ht4 ht5 hw4 hw5 hf5 hf6
      go_wp2_with fail
      refine (left_any hrd6).mono ?_
      rintro e w7 ⟨rfl, rfl⟩
      by_cases hq : q = []
      · subst hq
        go_wp2_with fail
        refine (done_any hrd6).mono ?_
        rintro e w7 ⟨rfl, rfl⟩
        go_wp2_with fail
        refine (left_any hrd6).mono ?_
        rintro e w7 ⟨rfl, rfl⟩
        go_wp2_with fail
        go_ret
        exact ⟨congrArg (fun b => Ending.returned (.bool b)) (again_full HE.out), .of_below hw6⟩
      · have hqp : 0 < q.length := List.length_pos_iff.2 hq
        have hb : ((q.length : Int) == 0) = false := beq_eq_false_iff_ne.2 (by omega)
        go_wp2_with fail
        refine (left_any hrd6).mono ?_
        rintro e w7 ⟨rfl, rfl⟩
        go_wp2_with fail
        go_ret
        exact ⟨congrArg (fun b => Ending.returned (.bool b)) (again_part HE.out), .of_below hw6⟩
    · clear hn
      go_wp2_with fail
      refine (texts_any _ [] _ (.inl ⟨rfl, _, _, rfl⟩) (by simp) (by simp) (by simp) ht5).mono ?_
      rintro e w6 ⟨rfl, hf6⟩
      have hrd6 := hrd5.fr hf6
      have hw6 := hw5.trans (hf6.to hw5.size)
      clear hrd5 hrd4 ht4 ht5 hw4 hw5 hf5 hf6
      go_wp2_with fail
      refine (left_any hrd6).mono ?_
      rintro e w7 ⟨rfl, rfl⟩
      go_wp2_with fail
      refine (done_any hrd6).mono ?_
      rintro e w7 ⟨rfl, rfl⟩
      go_wp2_with fail
      go_ret
      exact ⟨rfl, .of_below hw6⟩

theorem again_out (s : List UInt8) (k : Int) (w : World) (ht : Tab w) (hs : s.length ≤ 9223372036854775807) (h : 400 < s.length) :
    Calls Tryd.prog 6 #[.string (S s), .int .i64 k] w fun e w' => e = .returned (.bool true) ∧ Fr w w' := by
  go_enter Tryd.func6, Tryd.ntmps6
  go_wp2_with fail
  refine (small_any _ ht).mono ?_
  rintro e w1 ⟨rfl, hf1⟩
  go_wp2_with fail
  go_ret
  exact ⟨rfl, hf1⟩
theorem again_law (s : List UInt8) (k : Int) (w : World) (hs : s.length ≤ maxLen) (hk : Wm.inInt k) (ht : Tab w) :
    Calls Tryd.prog 6 #[.string (S s), .int .i64 k] w fun e w' => e = .returned (.bool true) ∧ Fr w w' := by
  unfold maxLen at hs
  by_cases h : s.length ≤ 400
  · exact again_at s k w h hk ht
  · exact again_out s k w ht hs (by omega)
end Go.Proofs.YtjabpagfoclajaaDoor
