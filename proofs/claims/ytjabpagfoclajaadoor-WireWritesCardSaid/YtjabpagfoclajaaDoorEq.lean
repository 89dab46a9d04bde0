/-
  Contracts: SameNums and SameTexts at equal lists; equal, at a reader ahead of which the value stands.
-/
import Derived.Test.YtjabpagfoclajaaDoorFew
import Derived.Deep.RegionHeld3
namespace Go.Proofs.YtjabpagfoclajaaDoor
open Go.RowKit

/-- A read at which the value is known to stand. -/
theorem Got.at {α : Type} {T b : Nat} {E : Wm.Enc α} {r q : List UInt8} {f : Bool} {x : α → Value} {z : Value} {e : Ending} {w' : World} {v : α} (h : Got T b E r f x z e w') (hE : E.Pf) (hv : E.dom v) (hr : r = E.f v ++ q) : e = .returned (x v) ∧ Rd T b q f w' := by
  rcases h with ⟨u, r', hu, he, rfl, hrd⟩ | ⟨hn, _, _⟩
  · obtain ⟨rfl, rfl⟩ := hE _ _ _ _ hv hu (hr ▸ he)
    exact ⟨rfl, hrd⟩
  · exact absurd hr (hn _ _ hv)
theorem GotL.at {α : Type} {T b B : Nat} {E : Wm.Enc α} {r q : List UInt8} {f : Bool} {x : α → Value} {e : Ending} {w' : World} {l : List α} (h : GotL T b B E x r f e w') (hE : E.Pf) (hv : (Wm.listE E).dom l) (hr : r = (Wm.listE E).f l ++ q) : ∃ v, e = .returned v ∧ IsSlB B w' v (l.map x) ∧ Rd T b q f w' := by
  rcases h with ⟨u, r', v, hu, he, rfl, hs, hrd⟩ | ⟨hn, _, _⟩
  · obtain ⟨rfl, rfl⟩ := Wm.listE_pf hE _ _ _ _ hv hu (hr ▸ he)
    exact ⟨v, rfl, hs, hrd⟩
  · exact absurd hr (hn _ _ hv)

set_option maxHeartbeats 400000 in
theorem sameNums_at (b o c b' o' c' : Nat) (xs : List Int) (w : World) (h1 : ∀ i x, (xs.map (Value.int .i64))[i]? = some x → w.cell? ⟨b, o + i, none⟩ = some x) (h2 : ∀ i x, (xs.map (Value.int .i64))[i]? = some x → w.cell? ⟨b', o' + i, none⟩ = some x) (hn : xs.length ≤ 4611686018427387904) :
    Calls Tryd.prog 30 #[.slice (some ⟨b, o, none⟩) xs.length c, .slice (some ⟨b', o', none⟩) xs.length c'] w fun e w' => e = .returned (.bool true) ∧ Fr w w' := by
  have H1 := Lib.hid h1
  have H2 := Lib.hid h2
  clear h1 h2
  go_enter Tryd.func30, Tryd.ntmps30
  go_wp2_with fail
  go_loopw [5] (fun i wr => ∃ k : Nat, k ≤ xs.length ∧ i = .int .i64 k ∧ Fr w wr) (fun i _ => xs.length - (intOf i).toNat)
  case atStart => exact ⟨0, Nat.zero_le _, rfl, Fr.refl _⟩
  case round =>
    obtain ⟨k, hk, rfl, hwr⟩ := hrel
    by_cases hlt : k < xs.length
    · have c1 := hwr.cell (H1.out k (.int .i64 xs[k]) (by simp [hlt]))
      have c2 := hwr.cell (H2.out k (.int .i64 xs[k]) (by simp [hlt]))
      generalize xs[k] = x at *
      go_wp2_with fail
      go_quiet (fail)
      have hq := hwr.trans (Fr.drewN wr nq)
      generalize wr.drewN nq = w2 at *
      clear c1 c2 hwr
      go_wp2_with fail
      go_roundw
      case rel => exact ⟨k + 1, by omega, by go_num, hq⟩
      case measure => simp [intOf]; omega
    · go_wp2_with fail
      go_ret
      exact ⟨rfl, hwr⟩
theorem same_nil (a a' : Option Addr) (c c' : Nat) (w : World) :
    Calls Tryd.prog 30 #[.slice a 0 c, .slice a' 0 c'] w fun e w' => e = .returned (.bool true) ∧ Fr w w' := by
  go_enter Tryd.func30, Tryd.ntmps30
  go_wp2_with fail
  go_loopw [5] (fun i wr => i = .int .i64 0 ∧ wr = w) (fun _ _ => 0)
  case atStart => exact ⟨rfl, rfl⟩
  case round =>
    obtain ⟨rfl, rfl⟩ := hrel
    go_wp2_with fail
    go_ret
    exact ⟨rfl, Fr.refl _⟩
theorem sameNums_any (u v : Value) (xs : List Int) (w : World) (h1 : IsSl w u (xs.map (Value.int .i64))) (h2 : IsSl w v (xs.map (Value.int .i64))) (hn : xs.length ≤ 4611686018427387904) :
    Calls Tryd.prog 30 #[u, v] w fun e w' => e = .returned (.bool true) ∧ Fr w w' := by
  rcases h1 with ⟨h0, a, c, rfl⟩ | ⟨b, o, c, rfl, hc⟩
  · obtain rfl : xs = [] := by simpa using h0
    obtain ⟨a', c', rfl⟩ := h2.len
    exact same_nil a a' c c' w
  · rcases h2 with ⟨h0, a', c', rfl⟩ | ⟨b', o', c', rfl, hc'⟩
    · obtain rfl : xs = [] := by simpa using h0
      exact same_nil _ a' c c' w
    · rw [List.length_map]
      exact sameNums_at b o c b' o' c' xs w hc hc' hn
set_option maxHeartbeats 400000 in
theorem sameTexts_at (b o c b' o' c' : Nat) (xs : List (List UInt8)) (w : World) (h1 : ∀ i x, (xs.map (fun z => Value.string (S z)))[i]? = some x → w.cell? ⟨b, o + i, none⟩ = some x) (h2 : ∀ i x, (xs.map (fun z => Value.string (S z)))[i]? = some x → w.cell? ⟨b', o' + i, none⟩ = some x) (hn : xs.length ≤ 4611686018427387904) :
    Calls Tryd.prog 33 #[.slice (some ⟨b, o, none⟩) xs.length c, .slice (some ⟨b', o', none⟩) xs.length c'] w fun e w' => e = .returned (.bool true) ∧ Fr w w' := by
  have H1 := Lib.hid h1
  have H2 := Lib.hid h2
  clear h1 h2
  go_enter Tryd.func33, Tryd.ntmps33
  go_wp2_with fail
  go_loopw [5] (fun i wr => ∃ k : Nat, k ≤ xs.length ∧ i = .int .i64 k ∧ Fr w wr) (fun i _ => xs.length - (intOf i).toNat)
  case atStart => exact ⟨0, Nat.zero_le _, rfl, Fr.refl _⟩
  case round =>
    obtain ⟨k, hk, rfl, hwr⟩ := hrel
    by_cases hlt : k < xs.length
    · have c1 := hwr.cell (H1.out k (.string (S xs[k])) (by simp [hlt]))
      have c2 := hwr.cell (H2.out k (.string (S xs[k])) (by simp [hlt]))
      generalize xs[k] = x at *
      go_wp2_with fail
      go_quiet (fail)
      have hq := hwr.trans (Fr.drewN wr nq)
      generalize wr.drewN nq = w2 at *
      clear c1 c2 hwr
      go_wp2_with fail
      go_roundw
      case rel => exact ⟨k + 1, by omega, by go_num, hq⟩
      case measure => simp [intOf]; omega
    · go_wp2_with fail
      go_ret
      exact ⟨rfl, hwr⟩
theorem same_nil' (a a' : Option Addr) (c c' : Nat) (w : World) :
    Calls Tryd.prog 33 #[.slice a 0 c, .slice a' 0 c'] w fun e w' => e = .returned (.bool true) ∧ Fr w w' := by
  go_enter Tryd.func33, Tryd.ntmps33
  go_wp2_with fail
  go_loopw [5] (fun i wr => i = .int .i64 0 ∧ wr = w) (fun _ _ => 0)
  case atStart => exact ⟨rfl, rfl⟩
  case round =>
    obtain ⟨rfl, rfl⟩ := hrel
    go_wp2_with fail
    go_ret
    exact ⟨rfl, Fr.refl _⟩
theorem sameTexts_any (u v : Value) (xs : List (List UInt8)) (w : World) (h1 : IsSl w u (xs.map (fun z => Value.string (S z)))) (h2 : IsSl w v (xs.map (fun z => Value.string (S z)))) (hn : xs.length ≤ 4611686018427387904) :
    Calls Tryd.prog 33 #[u, v] w fun e w' => e = .returned (.bool true) ∧ Fr w w' := by
  rcases h1 with ⟨h0, a, c, rfl⟩ | ⟨b, o, c, rfl, hc⟩
  · obtain rfl : xs = [] := by simpa using h0
    obtain ⟨a', c', rfl⟩ := h2.len
    exact same_nil' a a' c c' w
  · rcases h2 with ⟨h0, a', c', rfl⟩ | ⟨b', o', c', rfl, hc'⟩
    · obtain rfl : xs = [] := by simpa using h0
      exact same_nil' _ a' c c' w
    · rw [List.length_map]
      exact sameTexts_at b o c b' o' c' xs w hc hc' hn

theorem num_at {b : Nat} {q : List UInt8} {n : Int} {f : Bool} {w : World} {a : Addr} {x : Value} (h : Rd 54 b ((Wm.numE 59).f n ++ q) f w) (hn : Wm.inNum n) (hl : ((Wm.numE 59).f n ++ q).length ≤ 4611686018427387904) (hc : w.cell? a = some x) (ha : a.block ≠ b) :
    Calls Tryd.prog 24 #[.pointer (some ⟨b, 0, none⟩)] w fun e w' => e = .returned (.int .i64 n) ∧ Rd 54 b q f w' ∧ FrB b w w' ∧ w'.cell? a = some x :=
  (rNum_any h hl).mono fun _ _ ⟨hg, hf⟩ => by
    obtain ⟨h1, h2⟩ := hg.at (Wm.numE_pf Wm.num59) hn rfl
    exact ⟨h1, h2, hf, World.grownBy.cell hf hc (by simpa using ha)⟩
theorem int_at {b : Nat} {q : List UInt8} {n : Int} {f : Bool} {w : World} {a : Addr} {x : Value} (h : Rd 54 b ((Wm.intE 59).f n ++ q) f w) (hn : Wm.inInt n) (hl : ((Wm.intE 59).f n ++ q).length ≤ 4611686018427387904) (hc : w.cell? a = some x) (ha : a.block ≠ b) :
    Calls Tryd.prog 26 #[.pointer (some ⟨b, 0, none⟩)] w fun e w' => e = .returned (.int .i64 n) ∧ Rd 54 b q f w' ∧ FrB b w w' ∧ w'.cell? a = some x :=
  (rInt_any h hl).mono fun _ _ ⟨hg, hf⟩ => by
    obtain ⟨h1, h2⟩ := hg.at (Wm.intE_pf Wm.num59) hn rfl
    exact ⟨h1, h2, hf, World.grownBy.cell hf hc (by simpa using ha)⟩
theorem text_at {b : Nat} {q s : List UInt8} {f : Bool} {w : World} {a : Addr} {x : Value} (h : Rd 54 b (Wm.textE.f s ++ q) f w) (hn : s.length ≤ 9223372036854775807) (hl : (Wm.textE.f s ++ q).length ≤ 4611686018427387904) (hc : w.cell? a = some x) (ha : a.block ≠ b) :
    Calls Tryd.prog 28 #[.pointer (some ⟨b, 0, none⟩)] w fun e w' => e = .returned (.string (S s)) ∧ Rd 54 b q f w' ∧ FrB b w w' ∧ w'.cell? a = some x :=
  (rText_any h hl).mono fun _ _ ⟨hg, hf⟩ => by
    obtain ⟨h1, h2⟩ := hg.at Wm.textE_pf hn rfl
    exact ⟨h1, h2, hf, World.grownBy.cell hf hc (by simpa using ha)⟩

theorem FrB.below {b : Nat} {w w' : World} (h : FrB b w w') {B : Nat} (hB : B ≤ b) (hw : B ≤ w.heap.size) : Below B w w' :=
  ⟨h.os, h.tape, h.output, h.size, fun k hk => World.grownBy.block h k (by omega) (by simp; omega)⟩
theorem IsSl.below {w w' : World} {v : Value} {xs : List Value} (h : IsSl w v xs) (hb : Below w.heap.size w w') : IsSl w' v xs := h.fr (.of_below hb)
theorem V.ok.below {v : V} {w w' : World} (h : v.ok w) (hb : Below w.heap.size w w') : v.ok w' := h.fr (.of_below hb)
theorem nums_at {b : Nat} {q : List UInt8} {l : List Int} {w : World} {a : Addr} {x : Value} (h : Rd 54 b ((Wm.listE (Wm.intE 59)).f l ++ q) false w) (hn : (Wm.listE (Wm.intE 59)).dom l) (hl : ((Wm.listE (Wm.intE 59)).f l ++ q).length ≤ 4294967296) (hc : w.cell? a = some x) (ha : a.block ≠ b) :
    Calls Tryd.prog 31 #[.pointer (some ⟨b, 0, none⟩)] w fun e w' => ∃ v, e = .returned v ∧ IsSlB w.heap.size w' v (l.map (Value.int .i64)) ∧ Rd 54 b q false w' ∧ FrB b w w' ∧ w'.cell? a = some x :=
  (rNums_any h hl (by simp)).mono fun _ _ ⟨hg, hf⟩ => by
    obtain ⟨v, h1, h2, h3⟩ := hg.at (Wm.intE_pf Wm.num59) hn rfl
    exact ⟨v, h1, h2, h3, hf, World.grownBy.cell hf hc (by simpa using ha)⟩
theorem texts_at {b : Nat} {q : List UInt8} {l : List (List UInt8)} {w : World} {a : Addr} {x : Value} (h : Rd 54 b ((Wm.listE Wm.textE).f l ++ q) false w) (hn : (Wm.listE Wm.textE).dom l) (hl : ((Wm.listE Wm.textE).f l ++ q).length ≤ 4294967296) (hc : w.cell? a = some x) (ha : a.block ≠ b) :
    Calls Tryd.prog 34 #[.pointer (some ⟨b, 0, none⟩)] w fun e w' => ∃ v, e = .returned v ∧ IsSlB w.heap.size w' v (l.map fun z => Value.string (S z)) ∧ Rd 54 b q false w' ∧ FrB b w w' ∧ w'.cell? a = some x :=
  (rTexts_any h hl (by simp)).mono fun _ _ ⟨hg, hf⟩ => by
    obtain ⟨v, h1, h2, h3⟩ := hg.at Wm.textE_pf hn rfl
    exact ⟨v, h1, h2, h3, hf, World.grownBy.cell hf hc (by simpa using ha)⟩

set_option maxHeartbeats 1000000 in
theorem equal_any (v : V) (b : Nat) (q : List UInt8) (w0 w : World) (h0 : v.ok w0) (hbel : Below w0.heap.size w0 w) (hb : w0.heap.size ≤ b) (hv : v.few) (hrd : Rd 54 b (v.enc ++ q) false w) (hl : (v.enc ++ q).length ≤ 4294967296) :
    Calls Tryd.prog 43 #[.pointer (some ⟨b, 0, none⟩), .agg #[.int .i64 v.kd, .int .i64 v.n, .string (S v.s), v.lv, v.tv]] w fun e w' => e = .returned (.bool true) ∧ Rd 54 b q false w' ∧ FrB b w w' := by
  have hk := v.kind_lt
  have hblt := hrd.lt
  have h := h0.below hbel
  go_enter Tryd.func43, Tryd.ntmps43
  go_wp2_with fail
  have hb0 := Bx.new w v
  have hf0 := Fr.alloc w (.cells #[.int .i64 v.kd, .int .i64 v.n, .string (S v.s), v.lv, v.tv] 25)
  have hok := h.fr hf0
  refine (kind_any v _ hok).mono ?_
  rintro e w1 ⟨rfl, hf1⟩
  have hb1 := hb0.fr hf1
  have c1 := hb1.cell 1
  have c2 := hb1.cell 2
  have c3 := hb1.cell 3
  have c4 := hb1.cell 4
  simp only [V.cells, List.getElem?_toArray, List.getElem?_cons_succ, List.getElem?_cons_zero] at c1 c2 c3 c4
  have hfw := hf0.trans hf1
  have hrd1 := hrd.fr hfw
  have hok1 := hok.fr hf1
  have hn := h.n
  have hn1 := hn.1
  have hn2 := hn.2
  have hcase : v.kind = 0 ∨ v.kind = 1 ∨ v.kind = 2 ∨ v.kind = 3 ∨ v.kind = 4 := by omega
  have HOK := Lib.hid hok1
  have HV := Lib.hid hv
  have hne : w.heap.size ≠ b := by omega
  clear hb0 hf0 hok hf1 hb1 hk hok1 hn h hv hrd
  rcases hcase with hk | hk | hk | hk | hk
  · have HE : v.enc = (Wm.numE 59).f (vnum v.n) := by unfold V.enc; simp [hk, V.num]
    rw [HE] at hrd1 hl
    have HN := Lib.hid (v.num_in ⟨hn1, hn2⟩)
    clear HE
    go_wp2_with fail
    go_region_with (first | (go_at_call 24; refine (num_at (a := ⟨w.heap.size, 1, none⟩) (x := .int .i64 v.n) (w := w1.drew) hrd1 HN.out (by omega) c1 hne).mono ?_; rintro e w2 ⟨rfl, hrd2, hfb2, hc2⟩) | (go_at_call 58; refine (number_any' v.n _ hn1 hn2).mono ?_; rintro e w3 ⟨rfl, rfl⟩))
    all_goals
      go_wp2_with fail
      go_ret
      exact ⟨rfl, hrd2, ((hfw.trans (Fr.drew w1)).frb b).trans hfb2⟩
  · have HE : v.enc = (Wm.intE 59).f v.n := by unfold V.enc; simp [hk]
    rw [HE] at hrd1 hl
    clear HE
    go_wp2_with fail
    go_region_with (go_at_call 26; refine (int_at (a := ⟨w.heap.size, 1, none⟩) (x := .int .i64 v.n) (w := w1.drew) hrd1 ⟨hn1, hn2⟩ (by omega) c1 hne).mono ?_; rintro e w2 ⟨rfl, hrd2, hfb2, hc2⟩)
    all_goals
      go_wp2_with fail
      go_ret
      exact ⟨rfl, hrd2, ((hfw.trans (Fr.drew w1)).frb b).trans hfb2⟩
  · have HE : v.enc = Wm.textE.f v.s := by unfold V.enc; simp [hk]
    rw [HE] at hrd1 hl
    clear HE
    go_wp2_with fail
    go_region_with (go_at_call 28; refine (text_at (a := ⟨w.heap.size, 2, none⟩) (x := .string (S v.s)) (w := w1.drew) hrd1 (by have := HV.out.s; omega) (by omega) c2 hne).mono ?_; rintro e w2 ⟨rfl, hrd2, hfb2, hc2⟩)
    all_goals
      go_wp2_with fail
      go_ret
      exact ⟨rfl, hrd2, ((hfw.trans (Fr.drew w1)).frb b).trans hfb2⟩
  · have HE : v.enc = (Wm.listE (Wm.intE 59)).f v.l := by unfold V.enc; simp [hk]
    rw [HE] at hrd1 hl
    have hsl : Hid (∀ w2, FrB b w1.drew w2 → IsSl w2 v.lv (v.l.map (Value.int .i64))) := fun w2 hf => h0.lv.below ((hbel.trans ((hfw.trans (Fr.drew w1)).to hbel.size)).trans (hf.below hb (Nat.le_trans hbel.size (hfw.trans (Fr.drew w1)).size)))
    have hdm : Hid ((Wm.listE (Wm.intE 59)).dom v.l) := ⟨by have := HV.out.l; omega, HOK.out.l⟩
    have hll : v.l.length ≤ 400 := HV.out.l
    clear HE
    go_wp2_with fail
    go_region_with (first | (go_at_call 31; refine (nums_at (a := ⟨w.heap.size, 3, none⟩) (x := v.lv) (w := w1.drew) hrd1 hdm.out hl c3 hne).mono ?_; rintro e w2 ⟨y, rfl, hs2, hrd2, hfb2, hc2⟩) | (go_at_call 30; refine (sameNums_any _ _ v.l _ hs2.sl (hsl.out _ hfb2) (by omega)).mono ?_; rintro e w3 ⟨rfl, hf3⟩))
    all_goals
      go_wp2_with fail
      go_ret
      exact ⟨rfl, hrd2.fr hf3, (((hfw.trans (Fr.drew w1)).frb b).trans hfb2).trans (hf3.frb b)⟩
  · have HE : v.enc = (Wm.listE Wm.textE).f v.t := by unfold V.enc; simp [hk]
    rw [HE] at hrd1 hl
    have hsl : Hid (∀ w2, FrB b w1.drew w2 → IsSl w2 v.tv (v.t.map fun z => Value.string (S z))) := fun w2 hf => h0.tv.below ((hbel.trans ((hfw.trans (Fr.drew w1)).to hbel.size)).trans (hf.below hb (Nat.le_trans hbel.size (hfw.trans (Fr.drew w1)).size)))
    have hdm : Hid ((Wm.listE Wm.textE).dom v.t) := ⟨by have := HV.out.t; omega, fun x hx => by have := HV.out.ts x hx; show x.length ≤ 9223372036854775807; omega⟩
    have hll : v.t.length ≤ 400 := HV.out.t
    clear HE
    go_wp2_with fail
    go_region_with (first | (go_at_call 34; refine (texts_at (a := ⟨w.heap.size, 4, none⟩) (x := v.tv) (w := w1.drew) hrd1 hdm.out hl c4 hne).mono ?_; rintro e w2 ⟨y, rfl, hs2, hrd2, hfb2, hc2⟩) | (go_at_call 33; refine (sameTexts_any _ _ v.t _ hs2.sl (hsl.out _ hfb2) (by omega)).mono ?_; rintro e w3 ⟨rfl, hf3⟩))
    all_goals
      go_wp2_with fail
      go_ret
      exact ⟨rfl, hrd2.fr hf3, (((hfw.trans (Fr.drew w1)).frb b).trans hfb2).trans (hf3.frb b)⟩
end Go.Proofs.YtjabpagfoclajaaDoor
