/-
  The walk of WireReads.
-/
import Derived.Test.YtjabpagfoclajaaDoorEq
namespace Go.Proofs.YtjabpagfoclajaaDoor
open Go.RowKit

theorem Got.no {α : Type} {T b : Nat} {E : Wm.Enc α} {r : List UInt8} {f : Bool} {x : α → Value} {z : Value} {e : Ending} {w' : World} (h : Got T b E r f x z e w') (hn : ∀ v q, E.dom v → r ≠ E.f v ++ q) : e = .returned z ∧ Rd T b [] true w' := by
  rcases h with ⟨u, r', hu, he, _, _⟩ | ⟨_, rfl, hrd⟩
  · exact absurd he (hn _ _ hu)
  · exact ⟨rfl, hrd⟩
theorem GotL.no {α : Type} {T b B : Nat} {E : Wm.Enc α} {r : List UInt8} {f : Bool} {x : α → Value} {e : Ending} {w' : World} (h : GotL T b B E x r f e w') (hn : ∀ l q, (Wm.listE E).dom l → r ≠ (Wm.listE E).f l ++ q) : e = .returned (.slice none 0 0) ∧ Rd T b [] true w' := by
  rcases h with ⟨u, r', v, hu, he, _, _, _⟩ | ⟨_, rfl, hrd⟩
  · exact absurd he (hn _ _ hu)
  · exact ⟨rfl, hrd⟩

theorem list_le {α : Type} {E : Wm.Enc α} (hne : ∀ x, E.f x ≠ []) {l : List α} {q r : List UInt8} (e : r = (Wm.listE E).f l ++ q) : l.length ≤ r.length := by
  have := flat_ge hne l
  rw [e, Wm.listE_f]; simp only [List.length_append, List.length_cons]; omega
theorem numE_ne (x : Int) (q : List UInt8) : (Wm.numE 59).f x ++ q ≠ [] := by rw [Wm.numE_f]; simp
theorem intE_ne2 (x : Int) (q : List UInt8) : (Wm.intE 59).f x ++ q ≠ [] := by rw [Wm.intE_f]; simp
theorem textE_ne2 (x : List UInt8) (q : List UInt8) : Wm.textE.f x ++ q ≠ [] := by rw [Wm.textE_f]; simp
theorem listE_ne {α : Type} {E : Wm.Enc α} (x : List α) (q : List UInt8) : (Wm.listE E).f x ++ q ≠ [] := by rw [Wm.listE_f]; simp

/-- Two readers, of the program and of the reference, in new blocks, at one place. -/
structure Both (w : World) (a b : Nat) (r : List UInt8) (f : Bool) (wr : World) : Prop where
  ra : Rd 54 a r f wr
  rb : Rd 56 b r f wr
  len : r.length ≤ 400
  fail : f = true → r = []
  below : Below w.heap.size w wr
  na : w.heap.size ≤ a
  nb : w.heap.size ≤ b
  ne : a ≠ b

theorem Both.next {w wr w2 w3 : World} {a b : Nat} {r q : List UInt8} {f g : Bool} (h : Both w a b r f wr) (h1 : Rd 54 a q g w2) (f1 : FrB a wr w2) (h2 : Rd 56 b q g w3) (f2 : FrB b w2 w3) (hl : q.length ≤ r.length) (hf : g = true → q = []) : Both w a b q g w3 :=
  ⟨h1.frb f2 h.ne, h2, Nat.le_trans hl h.len, hf, (h.below.trans (f1.below h.na h.below.size)).trans (f2.below h.nb (Nat.le_trans h.below.size f1.size)), h.na, h.nb, h.ne⟩
theorem Both.fr {w wr w2 : World} {a b : Nat} {r : List UInt8} {f : Bool} (h : Both w a b r f wr) (hf : Fr wr w2) : Both w a b r f w2 :=
  ⟨h.ra.fr hf, h.rb.fr hf, h.len, h.fail, h.below.trans (hf.to h.below.size), h.na, h.nb, h.ne⟩

def V.ofKind (k : Int) : V := ⟨k, 0, [], .slice none 0 0, .slice none 0 0, [], []⟩
theorem V.ofKind_ok {k : Int} (h : Wm.inInt k) (w : World) : (V.ofKind k).ok w := ⟨h, by unfold Wm.inInt; simp [V.ofKind], .inl ⟨rfl, _, _, rfl⟩, .inl ⟨rfl, _, _, rfl⟩, by simp [V.ofKind]⟩

set_option maxHeartbeats 4000000 in
set_option maxRecDepth 100000 in
theorem reads_at (s : List UInt8) (v : Value) (cs : List Int) (w : World) (hs : s.length ≤ 400) (bk o c : Nat) (hv : v = .slice (some ⟨bk, o, none⟩) cs.length c) (hcell : ∀ (i : Nat) (h : i < cs.length), w.cell? ⟨bk, o + i, none⟩ = some (.int .i64 cs[i])) (hcl : cs.length ≤ 20) (hci : ∀ z ∈ cs, Wm.inInt z) (ht : Tab w) :
    Calls Tryd.prog 4 #[.string (S s), v] w fun e w' => e = .returned (.bool true) ∧ Fr w w' := by
  subst hv
  have HC := Lib.hid hcell
  have HI := Lib.hid hci
  clear hcell hci
  go_enter Tryd.func4, Tryd.ntmps4
  go_wp2_with fail
  refine (small_any _ ht).mono ?_
  rintro e w1 ⟨rfl, hf1⟩
  go_wp2_with fail
  refine (open_any s _).mono ?_
  rintro e w2 ⟨rfl, hrd2, hf2⟩
  go_wp2_with fail
  refine (qopen_any s _).mono ?_
  rintro e w3 ⟨rfl, hrd3, hf3⟩
  have hboth : Both w w1.heap.size w2.heap.size s false w3 := ⟨hrd2.fr hf3, hrd3, hs, by simp, ((hf1.trans hf2).trans hf3).below, hf1.size, (hf1.trans hf2).size, by have := hrd2.lt; omega⟩
  clear hrd2 hf2 hrd3 hf3 hf1 ht
  generalize w1.heap.size = a at *
  generalize w2.heap.size = b at *
  go_wp2_with fail
  go_loopw [8] (fun i wr => ∃ (k : Nat) (r : List UInt8) (f : Bool), k ≤ cs.length ∧ i = .int .i64 k ∧ Both w a b r f wr) (fun i _ => cs.length - (intOf i).toNat)
  case atStart => exact ⟨0, s, false, Nat.zero_le _, rfl, hboth⟩
  case round =>
    obtain ⟨k, r, f, hk, rfl, hbo⟩ := hrel
    clear hboth
    have hra := hbo.ra
    have hrb := hbo.rb
    by_cases hlt : k < cs.length
    · have hc0 := HC.out k hlt
      have hc : wr.cell? ⟨bk, o + k, none⟩ = some (.int .i64 cs[k]) := (hbo.below.cell (World.block_lt_of_cell? w _ hc0)).trans hc0
      have hki := HI.out cs[k] (List.getElem_mem hlt)
      generalize cs[k] = kd at *
      clear hc0
      go_wp2_with fail
      refine (kind_any (V.ofKind kd) _ (V.ofKind_ok hki _)).mono ?_
      rintro e w4 ⟨rfl, hf4⟩
      have hbo4 := hbo.fr hf4
      have hra4 := hbo4.ra
      have hrb4 := hbo4.rb
      have hlr := hbo4.len
      have hkl := (V.ofKind kd).kind_lt
      generalize (V.ofKind kd).kind = kk at *
      have hcase : kk = 0 ∨ kk = 1 ∨ kk = 2 ∨ kk = 3 ∨ kk = 4 := by omega
      clear hkl hc hki hra hrb hbo hf4
      rcases hcase with rfl | rfl | rfl | rfl | rfl
      · go_wp2_with fail
        refine (rNum_any hra4 (by omega)).mono ?_
        rintro e w5 ⟨hg, hf5⟩
        have hrb5 := hrb4.frb hf5 hbo4.ne.symm
        rcases hg with ⟨x, q, hx, he, rfl, hrd5⟩ | ⟨hn, rfl, hrd5⟩
        · have hql := rest_le he
          have hff : f = false := by
            cases f with
            | false => rfl
            | true => rw [hbo4.fail rfl] at he; exact absurd he.symm (numE_ne x q)
          subst hff
          have HX := Lib.hid hx
          have HE := Lib.hid he
          clear hx he
          go_wp2_with fail
          refine (qNum_any hrb5 (by omega)).mono ?_
          rintro e w6 ⟨hg, hf6⟩
          obtain ⟨rfl, hrd6⟩ := hg.at (Wm.numE_pf Wm.num59) HX.out HE.out
          have hbo6 := hbo4.next hrd5 hf5 hrd6 hf6 hql (by simp)
          clear hbo4 hrd5 hf5 hrd6 hf6 hra4 hrb4 hrb5 hg
          have hra6 := hbo6.ra
          have hrb6 := hbo6.rb
          go_wp2_with fail
          refine (left_any hra6).mono ?_
          rintro e w8 ⟨rfl, rfl⟩
          go_wp2_with fail
          refine (qleft_any hrb6).mono ?_
          rintro e w8 ⟨rfl, rfl⟩
          go_wp2_with fail
          refine (done_any hra6).mono ?_
          rintro e w8 ⟨rfl, rfl⟩
          go_wp2_with fail
          refine (qdone_any hrb6).mono ?_
          rintro e w8 ⟨rfl, rfl⟩
          go_wp2_with fail
          go_roundw
          case rel => exact ⟨k + 1, _, _, by omega, by go_num, hbo6⟩
          case measure => simp [intOf]; omega
        · have HN := Lib.hid hn
          clear hn
          go_wp2_with fail
          refine (qNum_any hrb5 (by omega)).mono ?_
          rintro e w6 ⟨hg, hf6⟩
          obtain ⟨rfl, hrd6⟩ := hg.no HN.out
          have hbo6 := hbo4.next hrd5 hf5 hrd6 hf6 (by simp) (by simp)
          clear hbo4 hrd5 hf5 hrd6 hf6 hra4 hrb4 hrb5 hg
          have hra6 := hbo6.ra
          have hrb6 := hbo6.rb
          go_wp2_with fail
          refine (left_any hra6).mono ?_
          rintro e w8 ⟨rfl, rfl⟩
          go_wp2_with fail
          refine (qleft_any hrb6).mono ?_
          rintro e w8 ⟨rfl, rfl⟩
          go_wp2_with fail
          refine (done_any hra6).mono ?_
          rintro e w8 ⟨rfl, rfl⟩
          go_wp2_with fail
          refine (qdone_any hrb6).mono ?_
          rintro e w8 ⟨rfl, rfl⟩
          go_wp2_with fail
          go_roundw
          case rel => exact ⟨k + 1, _, _, by omega, by go_num, hbo6⟩
          case measure => simp [intOf]; omega
      · go_wp2_with fail
        refine (rInt_any hra4 (by omega)).mono ?_
        rintro e w5 ⟨hg, hf5⟩
        have hrb5 := hrb4.frb hf5 hbo4.ne.symm
        rcases hg with ⟨x, q, hx, he, rfl, hrd5⟩ | ⟨hn, rfl, hrd5⟩
        · have hql := rest_le he
          have hff : f = false := by
            cases f with
            | false => rfl
            | true => rw [hbo4.fail rfl] at he; exact absurd he.symm (intE_ne2 x q)
          subst hff
          have HX := Lib.hid hx
          have HE := Lib.hid he
          clear hx he
          go_wp2_with fail
          refine (qInt_any hrb5 (by omega)).mono ?_
          rintro e w6 ⟨hg, hf6⟩
          obtain ⟨rfl, hrd6⟩ := hg.at (Wm.intE_pf Wm.num59) HX.out HE.out
          have hbo6 := hbo4.next hrd5 hf5 hrd6 hf6 hql (by simp)
          clear hbo4 hrd5 hf5 hrd6 hf6 hra4 hrb4 hrb5 hg
          have hra6 := hbo6.ra
          have hrb6 := hbo6.rb
          go_wp2_with fail
          refine (left_any hra6).mono ?_
          rintro e w8 ⟨rfl, rfl⟩
          go_wp2_with fail
          refine (qleft_any hrb6).mono ?_
          rintro e w8 ⟨rfl, rfl⟩
          go_wp2_with fail
          refine (done_any hra6).mono ?_
          rintro e w8 ⟨rfl, rfl⟩
          go_wp2_with fail
          refine (qdone_any hrb6).mono ?_
          rintro e w8 ⟨rfl, rfl⟩
          go_wp2_with fail
          go_roundw
          case rel => exact ⟨k + 1, _, _, by omega, by go_num, hbo6⟩
          case measure => simp [intOf]; omega
        · have HN := Lib.hid hn
          clear hn
          go_wp2_with fail
          refine (qInt_any hrb5 (by omega)).mono ?_
          rintro e w6 ⟨hg, hf6⟩
          obtain ⟨rfl, hrd6⟩ := hg.no HN.out
          have hbo6 := hbo4.next hrd5 hf5 hrd6 hf6 (by simp) (by simp)
          clear hbo4 hrd5 hf5 hrd6 hf6 hra4 hrb4 hrb5 hg
          have hra6 := hbo6.ra
          have hrb6 := hbo6.rb
          go_wp2_with fail
          refine (left_any hra6).mono ?_
          rintro e w8 ⟨rfl, rfl⟩
          go_wp2_with fail
          refine (qleft_any hrb6).mono ?_
          rintro e w8 ⟨rfl, rfl⟩
          go_wp2_with fail
          refine (done_any hra6).mono ?_
          rintro e w8 ⟨rfl, rfl⟩
          go_wp2_with fail
          refine (qdone_any hrb6).mono ?_
          rintro e w8 ⟨rfl, rfl⟩
          go_wp2_with fail
          go_roundw
          case rel => exact ⟨k + 1, _, _, by omega, by go_num, hbo6⟩
          case measure => simp [intOf]; omega
      · go_wp2_with fail
        refine (rText_any hra4 (by omega)).mono ?_
        rintro e w5 ⟨hg, hf5⟩
        have hrb5 := hrb4.frb hf5 hbo4.ne.symm
        rcases hg with ⟨x, q, hx, he, rfl, hrd5⟩ | ⟨hn, rfl, hrd5⟩
        · have hql := rest_le he
          have hff : f = false := by
            cases f with
            | false => rfl
            | true => rw [hbo4.fail rfl] at he; exact absurd he.symm (textE_ne2 x q)
          subst hff
          have HX := Lib.hid hx
          have HE := Lib.hid he
          clear hx he
          go_wp2_with fail
          refine (qText_any hrb5 (by omega) (by simp)).mono ?_
          rintro e w6 ⟨hg, hf6⟩
          obtain ⟨rfl, hrd6⟩ := hg.at Wm.textE_pf HX.out HE.out
          have hbo6 := hbo4.next hrd5 hf5 hrd6 hf6 hql (by simp)
          clear hbo4 hrd5 hf5 hrd6 hf6 hra4 hrb4 hrb5 hg
          have hra6 := hbo6.ra
          have hrb6 := hbo6.rb
          go_wp2_with fail
          refine (left_any hra6).mono ?_
          rintro e w8 ⟨rfl, rfl⟩
          go_wp2_with fail
          refine (qleft_any hrb6).mono ?_
          rintro e w8 ⟨rfl, rfl⟩
          go_wp2_with fail
          refine (done_any hra6).mono ?_
          rintro e w8 ⟨rfl, rfl⟩
          go_wp2_with fail
          refine (qdone_any hrb6).mono ?_
          rintro e w8 ⟨rfl, rfl⟩
          go_wp2_with fail
          go_roundw
          case rel => exact ⟨k + 1, _, _, by omega, by go_num, hbo6⟩
          case measure => simp [intOf]; omega
        · have HN := Lib.hid hn
          clear hn
          go_wp2_with fail
          refine (qText_any hrb5 (by omega) hbo4.fail).mono ?_
          rintro e w6 ⟨hg, hf6⟩
          obtain ⟨rfl, hrd6⟩ := hg.no HN.out
          have hbo6 := hbo4.next hrd5 hf5 hrd6 hf6 (by simp) (by simp)
          clear hbo4 hrd5 hf5 hrd6 hf6 hra4 hrb4 hrb5 hg
          have hra6 := hbo6.ra
          have hrb6 := hbo6.rb
          go_wp2_with fail
          refine (left_any hra6).mono ?_
          rintro e w8 ⟨rfl, rfl⟩
          go_wp2_with fail
          refine (qleft_any hrb6).mono ?_
          rintro e w8 ⟨rfl, rfl⟩
          go_wp2_with fail
          refine (done_any hra6).mono ?_
          rintro e w8 ⟨rfl, rfl⟩
          go_wp2_with fail
          refine (qdone_any hrb6).mono ?_
          rintro e w8 ⟨rfl, rfl⟩
          go_wp2_with fail
          go_roundw
          case rel => exact ⟨k + 1, _, _, by omega, by go_num, hbo6⟩
          case measure => simp [intOf]; omega
      · go_wp2_with fail
        refine (rNums_any hra4 (by omega) hbo4.fail).mono ?_
        rintro e w5 ⟨hg, hf5⟩
        have hrb5 := hrb4.frb hf5 hbo4.ne.symm
        rcases hg with ⟨x, q, y, hx, he, rfl, hsl, hrd5⟩ | ⟨hn, rfl, hrd5⟩
        · have hql := rest_le he
          have hff : f = false := by
            cases f with
            | false => rfl
            | true => rw [hbo4.fail rfl] at he; exact absurd he.symm (listE_ne x q)
          subst hff
          have HX := Lib.hid hx
          have HE := Lib.hid he
          have HS := Lib.hid hsl
          clear hx he hsl
          have hbl := hrb4.lt
          go_wp2_with fail
          refine (qNums_any hrb5 (by omega) (by simp)).mono ?_
          rintro e w6 ⟨hg, hf6⟩
          obtain ⟨y2, rfl, hs2, hrd6⟩ := hg.at (Wm.intE_pf Wm.num59) HX.out HE.out
          have HS1 := Lib.hid (HS.out.frb hf6 hbl)
          have HS2 := Lib.hid hs2
          have hbo6 := hbo4.next hrd5 hf5 hrd6 hf6 hql (by simp)
          clear hbo4 hrd5 hf5 hrd6 hf6 hra4 hrb4 hrb5 hg hs2 HS hbl
          go_wp2_with fail
          refine (sameNums_any _ _ x _ HS1.out.sl HS2.out.sl (by have := list_le intE_ne HE.out; omega)).mono ?_
          rintro e w7 ⟨rfl, hf7⟩
          have hbo7 := hbo6.fr hf7
          clear hbo6 hf7
          have hra6 := hbo7.ra
          have hrb6 := hbo7.rb
          go_wp2_with fail
          refine (left_any hra6).mono ?_
          rintro e w8 ⟨rfl, rfl⟩
          go_wp2_with fail
          refine (qleft_any hrb6).mono ?_
          rintro e w8 ⟨rfl, rfl⟩
          go_wp2_with fail
          refine (done_any hra6).mono ?_
          rintro e w8 ⟨rfl, rfl⟩
          go_wp2_with fail
          refine (qdone_any hrb6).mono ?_
          rintro e w8 ⟨rfl, rfl⟩
          go_wp2_with fail
          go_roundw
          case rel => exact ⟨k + 1, _, _, by omega, by go_num, hbo7⟩
          case measure => simp [intOf]; omega
        · have HN := Lib.hid hn
          clear hn
          go_wp2_with fail
          refine (qNums_any hrb5 (by omega) hbo4.fail).mono ?_
          rintro e w6 ⟨hg, hf6⟩
          obtain ⟨rfl, hrd6⟩ := hg.no HN.out
          have hbo6 := hbo4.next hrd5 hf5 hrd6 hf6 (by simp) (by simp)
          clear hbo4 hrd5 hf5 hrd6 hf6 hra4 hrb4 hrb5 hg
          go_wp2_with fail
          refine (sameNums_any _ _ [] _ (.inl ⟨rfl, _, _, rfl⟩) (.inl ⟨rfl, _, _, rfl⟩) (by simp)).mono ?_
          rintro e w7 ⟨rfl, hf7⟩
          have hbo7 := hbo6.fr hf7
          clear hbo6 hf7
          have hra6 := hbo7.ra
          have hrb6 := hbo7.rb
          go_wp2_with fail
          refine (left_any hra6).mono ?_
          rintro e w8 ⟨rfl, rfl⟩
          go_wp2_with fail
          refine (qleft_any hrb6).mono ?_
          rintro e w8 ⟨rfl, rfl⟩
          go_wp2_with fail
          refine (done_any hra6).mono ?_
          rintro e w8 ⟨rfl, rfl⟩
          go_wp2_with fail
          refine (qdone_any hrb6).mono ?_
          rintro e w8 ⟨rfl, rfl⟩
          go_wp2_with fail
          go_roundw
          case rel => exact ⟨k + 1, _, _, by omega, by go_num, hbo7⟩
          case measure => simp [intOf]; omega
      · go_wp2_with fail
        refine (rTexts_any hra4 (by omega) hbo4.fail).mono ?_
        rintro e w5 ⟨hg, hf5⟩
        have hrb5 := hrb4.frb hf5 hbo4.ne.symm
        rcases hg with ⟨x, q, y, hx, he, rfl, hsl, hrd5⟩ | ⟨hn, rfl, hrd5⟩
        · have hql := rest_le he
          have hff : f = false := by
            cases f with
            | false => rfl
            | true => rw [hbo4.fail rfl] at he; exact absurd he.symm (listE_ne x q)
          subst hff
          have HX := Lib.hid hx
          have HE := Lib.hid he
          have HS := Lib.hid hsl
          clear hx he hsl
          have hbl := hrb4.lt
          go_wp2_with fail
          refine (qTexts_any hrb5 (by omega) (by simp)).mono ?_
          rintro e w6 ⟨hg, hf6⟩
          obtain ⟨y2, rfl, hs2, hrd6⟩ := hg.at Wm.textE_pf HX.out HE.out
          have HS1 := Lib.hid (HS.out.frb hf6 hbl)
          have HS2 := Lib.hid hs2
          have hbo6 := hbo4.next hrd5 hf5 hrd6 hf6 hql (by simp)
          clear hbo4 hrd5 hf5 hrd6 hf6 hra4 hrb4 hrb5 hg hs2 HS hbl
          go_wp2_with fail
          refine (sameTexts_any _ _ x _ HS1.out.sl HS2.out.sl (by have := list_le textE_ne HE.out; omega)).mono ?_
          rintro e w7 ⟨rfl, hf7⟩
          have hbo7 := hbo6.fr hf7
          clear hbo6 hf7
          have hra6 := hbo7.ra
          have hrb6 := hbo7.rb
          go_wp2_with fail
          refine (left_any hra6).mono ?_
          rintro e w8 ⟨rfl, rfl⟩
          go_wp2_with fail
          refine (qleft_any hrb6).mono ?_
          rintro e w8 ⟨rfl, rfl⟩
          go_wp2_with fail
          refine (done_any hra6).mono ?_
          rintro e w8 ⟨rfl, rfl⟩
          go_wp2_with fail
          refine (qdone_any hrb6).mono ?_
          rintro e w8 ⟨rfl, rfl⟩
          go_wp2_with fail
          go_roundw
          case rel => exact ⟨k + 1, _, _, by omega, by go_num, hbo7⟩
          case measure => simp [intOf]; omega
        · have HN := Lib.hid hn
          clear hn
          go_wp2_with fail
          refine (qTexts_any hrb5 (by omega) hbo4.fail).mono ?_
          rintro e w6 ⟨hg, hf6⟩
          obtain ⟨rfl, hrd6⟩ := hg.no HN.out
          have hbo6 := hbo4.next hrd5 hf5 hrd6 hf6 (by simp) (by simp)
          clear hbo4 hrd5 hf5 hrd6 hf6 hra4 hrb4 hrb5 hg
          go_wp2_with fail
          refine (sameTexts_any _ _ [] _ (.inl ⟨rfl, _, _, rfl⟩) (.inl ⟨rfl, _, _, rfl⟩) (by simp)).mono ?_
          rintro e w7 ⟨rfl, hf7⟩
          have hbo7 := hbo6.fr hf7
          clear hbo6 hf7
          have hra6 := hbo7.ra
          have hrb6 := hbo7.rb
          go_wp2_with fail
          refine (left_any hra6).mono ?_
          rintro e w8 ⟨rfl, rfl⟩
          go_wp2_with fail
          refine (qleft_any hrb6).mono ?_
          rintro e w8 ⟨rfl, rfl⟩
          go_wp2_with fail
          refine (done_any hra6).mono ?_
          rintro e w8 ⟨rfl, rfl⟩
          go_wp2_with fail
          refine (qdone_any hrb6).mono ?_
          rintro e w8 ⟨rfl, rfl⟩
          go_wp2_with fail
          go_roundw
          case rel => exact ⟨k + 1, _, _, by omega, by go_num, hbo7⟩
          case measure => simp [intOf]; omega
    · have hbf := hbo
      clear hbo
      go_wp2_with fail
      refine (rest_any hra).mono ?_
      rintro e w5 ⟨rfl, hra5, hf5⟩
      have hrb5 := hrb.frb hf5 hbf.ne.symm
      go_wp2_with fail
      refine (qrest_any hrb5).mono ?_
      rintro e w6 ⟨rfl, hrb6, hf6⟩
      have hra6 := hra5.frb hf6 hbf.ne
      have hww : Fr w w6 := .of_below ((hbf.below.trans (hf5.below hbf.na hbf.below.size)).trans (hf6.below hbf.nb (Nat.le_trans hbf.below.size hf5.size)))
      clear hbf hra5 hf5 hrb5 hf6 hra hrb
      go_wp2_with fail
      refine (left_any hra6).mono ?_
      rintro e w8 ⟨rfl, rfl⟩
      go_wp2_with fail
      refine (qleft_any hrb6).mono ?_
      rintro e w8 ⟨rfl, rfl⟩
      go_wp2_with fail
      refine (done_any hra6).mono ?_
      rintro e w8 ⟨rfl, rfl⟩
      go_wp2_with fail
      refine (qdone_any hrb6).mono ?_
      rintro e w8 ⟨rfl, rfl⟩
      go_wp2_with fail
      go_ret
      exact ⟨rfl, hww⟩
set_option maxHeartbeats 4000000 in
set_option maxRecDepth 100000 in
theorem reads_nil (s : List UInt8) (ad : Option Addr) (c : Nat) (w : World) (hs : s.length ≤ 400) (ht : Tab w) :
    Calls Tryd.prog 4 #[.string (S s), .slice ad 0 c] w fun e w' => e = .returned (.bool true) ∧ Fr w w' := by
  go_enter Tryd.func4, Tryd.ntmps4
  go_wp2_with fail
  refine (small_any _ ht).mono ?_
  rintro e w1 ⟨rfl, hf1⟩
  go_wp2_with fail
  refine (open_any s _).mono ?_
  rintro e w2 ⟨rfl, hrd2, hf2⟩
  go_wp2_with fail
  refine (qopen_any s _).mono ?_
  rintro e w3 ⟨rfl, hrd3, hf3⟩
  have hboth : Both w w1.heap.size w2.heap.size s false w3 := ⟨hrd2.fr hf3, hrd3, hs, by simp, ((hf1.trans hf2).trans hf3).below, hf1.size, (hf1.trans hf2).size, by have := hrd2.lt; omega⟩
  clear hrd2 hf2 hrd3 hf3 hf1 ht
  generalize w1.heap.size = a at *
  generalize w2.heap.size = b at *
  go_wp2_with fail
  go_loopw [8] (fun i wr => ∃ (r : List UInt8) (f : Bool), i = .int .i64 0 ∧ Both w a b r f wr) (fun _ _ => 0)
  case atStart => exact ⟨s, false, rfl, hboth⟩
  case round =>
    obtain ⟨r, f, rfl, hbo⟩ := hrel
    clear hboth
    have hra := hbo.ra
    have hrb := hbo.rb
    have hbf := hbo
    clear hbo
    go_wp2_with fail
    refine (rest_any hra).mono ?_
    rintro e w5 ⟨rfl, hra5, hf5⟩
    have hrb5 := hrb.frb hf5 hbf.ne.symm
    go_wp2_with fail
    refine (qrest_any hrb5).mono ?_
    rintro e w6 ⟨rfl, hrb6, hf6⟩
    have hra6 := hra5.frb hf6 hbf.ne
    have hww : Fr w w6 := .of_below ((hbf.below.trans (hf5.below hbf.na hbf.below.size)).trans (hf6.below hbf.nb (Nat.le_trans hbf.below.size hf5.size)))
    clear hbf hra5 hf5 hrb5 hf6 hra hrb
    go_wp2_with fail
    refine (left_any hra6).mono ?_
    rintro e w8 ⟨rfl, rfl⟩
    go_wp2_with fail
    refine (qleft_any hrb6).mono ?_
    rintro e w8 ⟨rfl, rfl⟩
    go_wp2_with fail
    refine (done_any hra6).mono ?_
    rintro e w8 ⟨rfl, rfl⟩
    go_wp2_with fail
    refine (qdone_any hrb6).mono ?_
    rintro e w8 ⟨rfl, rfl⟩
    go_wp2_with fail
    go_ret
    exact ⟨rfl, hww⟩

set_option maxHeartbeats 1000000 in
theorem reads_out (s : List UInt8) (a : Option Addr) (n c : Nat) (w : World) (ht : Tab w) (hs : s.length ≤ 9223372036854775807) (hn : n ≤ 9223372036854775807) (h : 400 < s.length ∨ 20 < n) :
    Calls Tryd.prog 4 #[.string (S s), .slice a n c] w fun e w' => e = .returned (.bool true) ∧ Fr w w' := by
  have h' : (400 < s.length) ∨ (s.length ≤ 400 ∧ 20 < n) := by omega
  clear h
  rcases h' with h1 | ⟨h1, h2⟩
  all_goals
    go_enter Tryd.func4, Tryd.ntmps4
    go_wp2_with fail
    refine (small_any _ ht).mono ?_
    rintro e w1 ⟨rfl, hf1⟩
    go_wp2_with fail
    go_ret
    exact ⟨rfl, hf1⟩

theorem reads_law (s : List UInt8) (v : Value) (cs : List Int) (w : World) (hs : s.length ≤ maxLen) (hsl : IsSl w v (cs.map (Value.int .i64))) (hcl : cs.length ≤ maxLen) (hci : ∀ z ∈ cs, Wm.inInt z) (ht : Tab w) :
    Calls Tryd.prog 4 #[.string (S s), v] w fun e w' => e = .returned (.bool true) ∧ Fr w w' := by
  unfold maxLen at hs hcl
  obtain ⟨a, c, hv⟩ := hsl.len
  by_cases h : s.length ≤ 400 ∧ cs.length ≤ 20
  · rcases hsl with ⟨h0, a, c, rfl⟩ | ⟨b, o, c, rfl, hc⟩
    · exact reads_nil s a c w h.1 ht
    · rw [List.length_map]
      exact reads_at s _ cs w h.1 b o c rfl (fun i hi => hc i _ (by simp [hi])) h.2 hci ht
  · subst hv
    rw [List.length_map]
    exact reads_out s a cs.length c w ht hs hcl (by omega)
end Go.Proofs.YtjabpagfoclajaaDoor
