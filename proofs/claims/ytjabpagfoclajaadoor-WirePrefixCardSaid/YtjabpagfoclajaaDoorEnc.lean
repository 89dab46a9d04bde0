/-
  Contracts: the functions of package wire that write, and those of the reference.
-/
import Derived.Test.YtjabpagfoclajaaDoorBase
namespace Go.Proofs.YtjabpagfoclajaaDoor
open Go.RowKit

theorem ret_str {s t : ByteArray} (h : s = t) : Ending.returned (.string s) = .returned (.string t) := by rw [h]

theorem int_any (n : Int) (w : World) (h0 : -9223372036854775808 ≤ n) (h1 : n ≤ 9223372036854775807) (ht : Tab w) :
    Calls Tryd.prog 13 #[.int .i64 n] w fun e w' => e = .returned (.string (S ((Wm.intE 59).f n))) ∧ Fr w w' := by
  have hl := Lib.itoa_length_le n h0 h1
  go_enter Tryd.func13, Tryd.ntmps13
  go_wp2_with (go_at_call 44; refine (Tryd.strconv_Itoa n h0 h1 _ ht).mono ?_; rintro e w' ⟨rfl, k, os, rfl⟩)
  go_ret
  exact ⟨ret_str (S_append _ [59]), Fr.grow _ _ _⟩

theorem num_neg (n : Int) (w : World) (h : n < 0) :
    Calls Tryd.prog 11 #[.int .i64 n] w fun e w' => e = .returned (.string (S [])) ∧ Fr w w' := by
  go_enter Tryd.func11, Tryd.ntmps11
  go_wp2
  go_ret
  exact ⟨rfl, Fr.refl _⟩
theorem num_any (n : Int) (w : World) (h0 : 0 ≤ n) (h1 : n ≤ 9223372036854775807) (ht : Tab w) :
    Calls Tryd.prog 11 #[.int .i64 n] w fun e w' => e = .returned (.string (S ((Wm.numE 59).f n))) ∧ Fr w w' := by
  go_enter Tryd.func11, Tryd.ntmps11
  go_wp2_with (go_at_call 13; refine (int_any n _ (by omega) h1 ht).mono ?_; rintro e w' ⟨rfl, hf⟩)
  go_ret
  exact ⟨rfl, hf⟩

theorem text_any (s : List UInt8) (w : World) (h : s.length ≤ 4611686018427387904) (ht : Tab w) :
    Calls Tryd.prog 15 #[.string (S s)] w fun e w' => e = .returned (.string (S (Wm.textE.f s))) ∧ Fr w w' := by
  have hl := Lib.itoa_length_le s.length (by omega) (by omega)
  go_enter Tryd.func15, Tryd.ntmps15
  go_wp2_with (go_at_call 44; refine (Tryd.strconv_Itoa _ (by omega) (by omega) _ ht).mono ?_; rintro e w' ⟨rfl, k, os, rfl⟩)
  go_ret
  refine ⟨ret_str ?_, Fr.grow _ _ _⟩
  have h : (⟨#[44]⟩ : ByteArray) = S [44] := rfl
  have h2 : (⟨(Lib.itoa ↑s.length).toArray⟩ : ByteArray) = S (Lib.itoa s.length) := rfl
  have h3 : (⟨#[58]⟩ : ByteArray) = S [58] := rfl
  rw [h, h2, h3, S_append, S_append, S_append]
  simp [Wm.textE]

/-- A slice of one-cell values. -/
def IsSl (w : World) (v : Value) (xs : List Value) : Prop :=
  (xs = [] ∧ ∃ a c, v = .slice a 0 c) ∨ ∃ b o c, v = .slice (some ⟨b, o, none⟩) xs.length c ∧ ∀ i x, xs[i]? = some x → w.cell? ⟨b, o + i, none⟩ = some x
theorem IsSl.fr {w w' : World} {v : Value} {xs : List Value} (h : IsSl w v xs) (hf : Fr w w') : IsSl w' v xs := by
  rcases h with h | ⟨b, o, c, hv, hc⟩
  · exact .inl h
  · exact .inr ⟨b, o, c, hv, fun i x hx => hf.cell (hc i x hx)⟩
theorem IsSl.len {w : World} {v : Value} {xs : List Value} (h : IsSl w v xs) : ∃ a c, v = .slice a xs.length c := by
  rcases h with ⟨rfl, a, c, rfl⟩ | ⟨b, o, c, rfl, _⟩
  · exact ⟨a, c, rfl⟩
  · exact ⟨_, _, rfl⟩

/-- The builder in block B, which the call has made itself, holds the bytes l. -/
def Bd (B : Nat) (l : List UInt8) (w : World) : Prop := Lib.IsBuilder 68 5 B B (Lib.byteCells l) w
theorem Bd.fresh (w : World) : Bd w.heap.size [] (w.alloc (.cells #[.pointer none, .slice none 0 0] 68)) := Lib.fresh_isBuilder _ _ w
theorem builderAt_fr {T e : TypeId} {B b : Nat} {p : Value} {bs : List Value} {w w' : World} (h : Lib.BuilderAt T e B b p bs w) (hf : Fr w w') : Lib.BuilderAt T e B b p bs w' := by
  obtain ⟨hB, v, hb, hown, hne⟩ := h
  exact ⟨hB, v, hf.heap hb, hown.kept hf (by cases v.ownBlock <;> simp), hne⟩
theorem Bd.fr {B : Nat} {l : List UInt8} {w w' : World} (h : Bd B l w) (hf : Fr w w') : Bd B l w' := by
  rcases h with h | h
  · exact .inl (builderAt_fr h hf)
  · exact .inr (builderAt_fr h hf)
theorem Bd.lt {B : Nat} {l : List UInt8} {w : World} (h : Bd B l w) : B < w.heap.size := by
  rcases h with h | h <;> exact h.lt
theorem bd_byte {B : Nat} {l : List UInt8} (c : UInt8) {w : World} (h : Bd B l w) (hl : l.length < 140737488355328) :
    Calls Tryd.prog 61 #[.pointer (some ⟨B, 0, none⟩), .int .u8 c.toNat] w fun e w' => e = .returned .nilIface ∧ Bd B (l ++ [c]) w' ∧ Below B w w' := by
  refine (writeByte B B _ _ w h (by rw [Lib.byteCells_length]; omega) (Nat.le_of_lt h.lt)).mono ?_
  rintro e w' ⟨rfl, h1, h2⟩
  exact ⟨rfl, .inr (by rw [Lib.byteCells_append]; exact h1), h2⟩
theorem bd_str {B : Nat} {l : List UInt8} (s : List UInt8) {w : World} (h : Bd B l w) (hl : l.length + s.length < 140737488355328) :
    Calls Tryd.prog 60 #[.pointer (some ⟨B, 0, none⟩), .string (S s)] w fun e w' => e = .returned (.tuple #[.int .i64 s.length, .nilIface]) ∧ Bd B (l ++ s) w' ∧ Below B w w' := by
  refine (writeString B B _ _ w h (by rw [Lib.byteCells_length]; show l.length + s.length ≤ _; omega) (Nat.le_of_lt h.lt)).mono ?_
  rintro e w' ⟨rfl, h1, h2⟩
  exact ⟨rfl, .inr (by rw [Lib.byteCells_append]; exact h1), h2⟩
theorem bd_string {B : Nat} {l : List UInt8} {w : World} (h : Bd B l w) :
    Calls Tryd.prog 62 #[.pointer (some ⟨B, 0, none⟩)] w fun e w' => e = .returned (.string (S l)) ∧ Below B w w' :=
  Tryd.Builder_String_any B B l w h (Nat.le_of_lt h.lt)
theorem Fr.to {B : Nat} {w w' : World} (h : Fr w w') (hB : B ≤ w.heap.size) : Below B w w' := h.below.mono hB
theorem tab_below {B : Nat} {w w' : World} (h : Tab w) (hb : Below B w w') (hB : 0 < B) : Tab w' := by
  have hgn : Tryd.prog.globalNamed "internal/strconv.uint64pow10" = some 0 := by kernel_rfl
  unfold Tab Lib.TabIs World.var? at h ⊢
  rw [hgn] at h ⊢
  simp only [Option.bind_some] at h ⊢
  rw [hb.block _ hB]
  exact h

theorem flat_len {zs : List Int} (hz : ∀ z ∈ zs, Wm.inInt z) : (zs.flatMap (Wm.intE 59).f).length ≤ 22 * zs.length := by
  induction zs with
  | nil => simp
  | cons z zs ih =>
    have h1 := Lib.itoa_length_le z (hz z (by simp)).1 (hz z (by simp)).2
    have h2 := ih (fun y hy => hz y (by simp [hy]))
    have h3 : ((Wm.intE 59).f z).length = (Lib.itoa z).length + 1 := by simp [Wm.intE]
    simp only [List.flatMap_cons, List.length_append, List.length_cons]
    omega
theorem flat_take {α : Type} (f : α → List UInt8) (l : List α) (k : Nat) (h : k < l.length) : (l.take (k + 1)).flatMap f = (l.take k).flatMap f ++ f l[k] := by
  rw [List.take_add_one, List.getElem?_eq_getElem h, List.flatMap_append]; simp

theorem flat_take_le {α : Type} (f : α → List UInt8) (l : List α) (k : Nat) : ((l.take k).flatMap f).length ≤ (l.flatMap f).length := by
  have h : l.flatMap f = (l.take k).flatMap f ++ (l.drop k).flatMap f := by rw [← List.flatMap_append, List.take_append_drop]
  rw [h, List.length_append]; omega
theorem flat_get_le {α : Type} (f : α → List UInt8) (l : List α) (k : Nat) (h : k < l.length) : ((l.take k).flatMap f).length + (f l[k]).length ≤ (l.flatMap f).length := by
  have := flat_take_le f l (k + 1)
  rw [flat_take f l k h, List.length_append] at this
  exact this

set_option maxHeartbeats 400000 in
theorem writeInts (b o c : Nat) (zs : List Int) (w : World) (hcell : ∀ i x, (zs.map (Value.int .i64))[i]? = some x → w.cell? ⟨b, o + i, none⟩ = some x) (hn : (zs.flatMap (Wm.intE 59).f).length ≤ 4294967296) (hm : zs.length ≤ 4294967296) (hz : ∀ z ∈ zs, Wm.inInt z) (ht : Tab w) :
    Calls Tryd.prog 46 #[.slice (some ⟨b, o, none⟩) zs.length c, .func (.func 13) #[] #[]] w fun e w' => e = .returned (.string (S ((Wm.listE (Wm.intE 59)).f zs))) ∧ Fr w w' := by
  have hl := Lib.itoa_length_le zs.length (by omega) (by omega)
  have hb0 := Bd.fresh w
  have hlt0 := ht.lt
  go_enter Tryd.func46, Tryd.ntmps46
  go_wp2_with fail
  refine (Tryd.strconv_Itoa _ (by omega) (by omega) _ (ht.alloc _)).mono ?_
  rintro e w1 ⟨rfl, k, os, rfl⟩
  have hf1 := Fr.grow (w.alloc (.cells #[.pointer none, .slice none 0 0] 68)) k os
  generalize Go.Sort.grow _ os = w1 at *
  have hb1 := hb0.fr hf1
  have HC := Lib.hid hcell
  have HZ := Lib.hid hz
  clear hcell hz
  have hBw1 : Below w.heap.size w w1 := (Fr.alloc w _).below.trans (hf1.to (by simp))
  clear hf1 hb0
  go_wp2_with fail
  refine (bd_str (Lib.itoa zs.length) hb1 (by simp; omega)).mono ?_
  rintro e w2 ⟨rfl, hb2, hw2⟩
  have hBw2 := hBw1.trans hw2
  clear hw2 hBw1 hb1
  go_wp2_with fail
  refine (bd_byte 91 hb2 (by simp; omega)).mono ?_
  rintro e w3 ⟨rfl, hb3, hw3⟩
  have hBw3 := hBw2.trans hw3
  have ht3 := tab_below ht hBw3 hlt0
  clear hw3 hBw2 hb2
  go_wp2_with fail
  go_loopw [15] (fun i wr => ∃ k : Nat, k ≤ zs.length ∧ i = .int .i64 k ∧ Bd w.heap.size (([] ++ Lib.itoa zs.length ++ [91]) ++ (zs.take k).flatMap (Wm.intE 59).f) wr ∧ Below w.heap.size w wr ∧ Tab wr) (fun i _ => zs.length - (intOf i).toNat)
  case atStart => exact ⟨0, Nat.zero_le _, rfl, by simpa using hb3, hBw3, ht3⟩
  case round =>
    obtain ⟨k, hk, rfl, hbk, hwk, htk⟩ := hrel
    clear ht3 hBw3 hb3
    by_cases hlt : k < zs.length
    · have hc0 := HC.out k (.int .i64 zs[k]) (by simp [hlt])
      have hc : wr.cell? ⟨b, o + k, none⟩ = some (.int .i64 zs[k]) := (hwk.cell (World.block_lt_of_cell? w _ hc0)).trans hc0
      have hzk := HZ.out zs[k] (List.getElem_mem hlt)
      have HL := Lib.hid (flat_get_le (Wm.intE 59).f zs k hlt)
      have HS := Lib.hid (flat_take (Wm.intE 59).f zs k hlt)
      clear hc0
      generalize hzz : zs[k] = z at *
      have HZZ := Lib.hid hzz
      clear hzz
      go_wp2_with fail
      refine (int_any z _ hzk.1 hzk.2 htk).mono ?_
      rintro e w4 ⟨rfl, hf4⟩
      have hb4 := hbk.fr hf4
      have hw4 := hwk.trans (hf4.to hwk.size)
      have ht4 := htk.fr hf4
      clear hbk hwk htk hf4 hc
      go_wp2_with fail
      refine (bd_str _ hb4 (by simp only [List.length_append, List.length_cons, List.length_nil]; have := HL.out; omega)).mono ?_
      rintro e w5 ⟨rfl, hb5, hw5⟩
      have hw6 := hw4.trans hw5
      have ht5 := tab_below ht4 hw5 hlt0
      clear hw4 hw5 hb4 ht4
      go_wp2_with fail
      go_roundw
      case rel => exact ⟨k + 1, by omega, by go_num, by rw [HS.out, ← List.append_assoc]; exact hb5, hw6, ht5⟩
      case measure => simp [intOf]; omega
    · have hkk : zs.take k = zs := List.take_of_length_le (by omega)
      rw [hkk] at hbk
      clear hkk
      go_wp2_with fail
      refine (bd_byte 93 hbk (by simp only [List.length_append, List.length_cons, List.length_nil]; omega)).mono ?_
      rintro e w4 ⟨rfl, hb4, hw4⟩
      have hw5 := hwk.trans hw4
      clear hwk hw4 hbk
      go_wp2_with fail
      refine (bd_string hb4).mono ?_
      rintro e w6 ⟨rfl, hw6⟩
      have hw7 := hw5.trans hw6
      clear hw5 hw6 hb4
      go_wp2_with fail
      go_ret
      exact ⟨ret_str (by congr 1), .of_below hw7⟩

set_option maxHeartbeats 400000 in
theorem writeInts0 (a : Option Addr) (c : Nat) (w : World) (ht : Tab w) :
    Calls Tryd.prog 46 #[.slice a 0 c, .func (.func 13) #[] #[]] w fun e w' => e = .returned (.string (S ((Wm.listE (Wm.intE 59)).f []))) ∧ Fr w w' := by
  have hl := Lib.itoa_length_le 0 (by omega) (by omega)
  have hb0 := Bd.fresh w
  have hlt0 := ht.lt
  go_enter Tryd.func46, Tryd.ntmps46
  go_wp2_with fail
  refine (Tryd.strconv_Itoa _ (by omega) (by omega) _ (ht.alloc _)).mono ?_
  rintro e w1 ⟨rfl, k, os, rfl⟩
  have hf1 := Fr.grow (w.alloc (.cells #[.pointer none, .slice none 0 0] 68)) k os
  generalize Go.Sort.grow _ os = w1 at *
  have hb1 := hb0.fr hf1
  have hBw1 : Below w.heap.size w w1 := (Fr.alloc w _).below.trans (hf1.to (by simp))
  clear hf1 hb0
  go_wp2_with fail
  refine (bd_str (Lib.itoa 0) hb1 (by simp; omega)).mono ?_
  rintro e w2 ⟨rfl, hb2, hw2⟩
  have hBw2 := hBw1.trans hw2
  clear hw2 hBw1 hb1
  go_wp2_with fail
  refine (bd_byte 91 hb2 (by simp; omega)).mono ?_
  rintro e w3 ⟨rfl, hb3, hw3⟩
  have hBw3 := hBw2.trans hw3
  clear hw3 hBw2 hb2
  go_wp2_with fail
  go_loopw [15] (fun i wr => i = .int .i64 0 ∧ wr = w3) (fun _ _ => 0)
  case atStart => exact ⟨rfl, rfl⟩
  case round =>
    obtain ⟨rfl, rfl⟩ := hrel
    go_wp2_with fail
    refine (bd_byte 93 hb3 (by simp only [List.length_append, List.length_cons, List.length_nil]; omega)).mono ?_
    rintro e w4 ⟨rfl, hb4, hw4⟩
    have hw5 := hBw3.trans hw4
    clear hBw3 hw4 hb3
    go_wp2_with fail
    refine (bd_string hb4).mono ?_
    rintro e w6 ⟨rfl, hw6⟩
    have hw7 := hw5.trans hw6
    clear hw5 hw6 hb4
    go_wp2_with fail
    go_ret
    exact ⟨ret_str (by congr 1), .of_below hw7⟩

theorem nums_any (v : Value) (zs : List Int) (w : World) (hs : IsSl w v (zs.map (Value.int .i64))) (hn : (zs.flatMap (Wm.intE 59).f).length ≤ 4294967296) (hm : zs.length ≤ 4294967296) (hz : ∀ z ∈ zs, Wm.inInt z) (ht : Tab w) :
    Calls Tryd.prog 17 #[v] w fun e w' => e = .returned (.string (S ((Wm.listE (Wm.intE 59)).f zs))) ∧ Fr w w' := by
  rcases hs with ⟨h0, a, c, rfl⟩ | ⟨b, o, c, rfl, hcell⟩
  · obtain rfl : zs = [] := by simpa using h0
    go_enter Tryd.func17, Tryd.ntmps17
    go_wp2_with fail
    refine (writeInts0 a c _ ht).mono ?_
    rintro e w' ⟨rfl, hf⟩
    go_wp2_with fail
    go_ret
    exact ⟨rfl, hf⟩
  · have HC := Lib.hid hcell
    have HZ := Lib.hid hz
    clear hcell hz
    rw [List.length_map]
    go_enter Tryd.func17, Tryd.ntmps17
    go_wp2_with fail
    refine (writeInts b o c zs _ HC.out hn hm HZ.out ht).mono ?_
    rintro e w' ⟨rfl, hf⟩
    go_wp2_with fail
    go_ret
    exact ⟨rfl, hf⟩

set_option maxHeartbeats 400000 in
theorem writeStrs (b o c : Nat) (zs : List (List UInt8)) (w : World) (hcell : ∀ i x, (zs.map (fun z => Value.string (S z)))[i]? = some x → w.cell? ⟨b, o + i, none⟩ = some x) (hn : (zs.flatMap Wm.textE.f).length ≤ 4294967296) (hm : zs.length ≤ 4294967296) (hz : ∀ z ∈ zs, z.length ≤ 4611686018427387904) (ht : Tab w) :
    Calls Tryd.prog 47 #[.slice (some ⟨b, o, none⟩) zs.length c, .func (.func 15) #[] #[]] w fun e w' => e = .returned (.string (S ((Wm.listE Wm.textE).f zs))) ∧ Fr w w' := by
  have hl := Lib.itoa_length_le zs.length (by omega) (by omega)
  have hb0 := Bd.fresh w
  have hlt0 := ht.lt
  go_enter Tryd.func47, Tryd.ntmps47
  go_wp2_with fail
  refine (Tryd.strconv_Itoa _ (by omega) (by omega) _ (ht.alloc _)).mono ?_
  rintro e w1 ⟨rfl, k, os, rfl⟩
  have hf1 := Fr.grow (w.alloc (.cells #[.pointer none, .slice none 0 0] 68)) k os
  generalize Go.Sort.grow _ os = w1 at *
  have hb1 := hb0.fr hf1
  have HC := Lib.hid hcell
  have HZ := Lib.hid hz
  clear hcell hz
  have hBw1 : Below w.heap.size w w1 := (Fr.alloc w _).below.trans (hf1.to (by simp))
  clear hf1 hb0
  go_wp2_with fail
  refine (bd_str (Lib.itoa zs.length) hb1 (by simp; omega)).mono ?_
  rintro e w2 ⟨rfl, hb2, hw2⟩
  have hBw2 := hBw1.trans hw2
  clear hw2 hBw1 hb1
  go_wp2_with fail
  refine (bd_byte 91 hb2 (by simp; omega)).mono ?_
  rintro e w3 ⟨rfl, hb3, hw3⟩
  have hBw3 := hBw2.trans hw3
  have ht3 := tab_below ht hBw3 hlt0
  clear hw3 hBw2 hb2
  go_wp2_with fail
  go_loopw [15] (fun i wr => ∃ k : Nat, k ≤ zs.length ∧ i = .int .i64 k ∧ Bd w.heap.size (([] ++ Lib.itoa zs.length ++ [91]) ++ (zs.take k).flatMap Wm.textE.f) wr ∧ Below w.heap.size w wr ∧ Tab wr) (fun i _ => zs.length - (intOf i).toNat)
  case atStart => exact ⟨0, Nat.zero_le _, rfl, by simpa using hb3, hBw3, ht3⟩
  case round =>
    obtain ⟨k, hk, rfl, hbk, hwk, htk⟩ := hrel
    clear ht3 hBw3 hb3
    by_cases hlt : k < zs.length
    · have hc0 := HC.out k (.string (S zs[k])) (by simp [hlt])
      have hc : wr.cell? ⟨b, o + k, none⟩ = some (.string (S zs[k])) := (hwk.cell (World.block_lt_of_cell? w _ hc0)).trans hc0
      have hzk := HZ.out zs[k] (List.getElem_mem hlt)
      have HL := Lib.hid (flat_get_le Wm.textE.f zs k hlt)
      have HS := Lib.hid (flat_take Wm.textE.f zs k hlt)
      clear hc0
      generalize hzz : zs[k] = z at *
      have HZZ := Lib.hid hzz
      clear hzz
      go_wp2_with fail
      refine (text_any z _ hzk htk).mono ?_
      rintro e w4 ⟨rfl, hf4⟩
      have hb4 := hbk.fr hf4
      have hw4 := hwk.trans (hf4.to hwk.size)
      have ht4 := htk.fr hf4
      clear hbk hwk htk hf4 hc
      go_wp2_with fail
      refine (bd_str _ hb4 (by simp only [List.length_append, List.length_cons, List.length_nil]; have := HL.out; omega)).mono ?_
      rintro e w5 ⟨rfl, hb5, hw5⟩
      have hw6 := hw4.trans hw5
      have ht5 := tab_below ht4 hw5 hlt0
      clear hw4 hw5 hb4 ht4
      go_wp2_with fail
      go_roundw
      case rel => exact ⟨k + 1, by omega, by go_num, by rw [HS.out, ← List.append_assoc]; exact hb5, hw6, ht5⟩
      case measure => simp [intOf]; omega
    · have hkk : zs.take k = zs := List.take_of_length_le (by omega)
      rw [hkk] at hbk
      clear hkk
      go_wp2_with fail
      refine (bd_byte 93 hbk (by simp only [List.length_append, List.length_cons, List.length_nil]; omega)).mono ?_
      rintro e w4 ⟨rfl, hb4, hw4⟩
      have hw5 := hwk.trans hw4
      clear hwk hw4 hbk
      go_wp2_with fail
      refine (bd_string hb4).mono ?_
      rintro e w6 ⟨rfl, hw6⟩
      have hw7 := hw5.trans hw6
      clear hw5 hw6 hb4
      go_wp2_with fail
      go_ret
      exact ⟨ret_str (by congr 1), .of_below hw7⟩

set_option maxHeartbeats 400000 in
theorem writeStrs0 (a : Option Addr) (c : Nat) (w : World) (ht : Tab w) :
    Calls Tryd.prog 47 #[.slice a 0 c, .func (.func 15) #[] #[]] w fun e w' => e = .returned (.string (S ((Wm.listE Wm.textE).f []))) ∧ Fr w w' := by
  have hl := Lib.itoa_length_le 0 (by omega) (by omega)
  have hb0 := Bd.fresh w
  have hlt0 := ht.lt
  go_enter Tryd.func47, Tryd.ntmps47
  go_wp2_with fail
  refine (Tryd.strconv_Itoa _ (by omega) (by omega) _ (ht.alloc _)).mono ?_
  rintro e w1 ⟨rfl, k, os, rfl⟩
  have hf1 := Fr.grow (w.alloc (.cells #[.pointer none, .slice none 0 0] 68)) k os
  generalize Go.Sort.grow _ os = w1 at *
  have hb1 := hb0.fr hf1
  have hBw1 : Below w.heap.size w w1 := (Fr.alloc w _).below.trans (hf1.to (by simp))
  clear hf1 hb0
  go_wp2_with fail
  refine (bd_str (Lib.itoa 0) hb1 (by simp; omega)).mono ?_
  rintro e w2 ⟨rfl, hb2, hw2⟩
  have hBw2 := hBw1.trans hw2
  clear hw2 hBw1 hb1
  go_wp2_with fail
  refine (bd_byte 91 hb2 (by simp; omega)).mono ?_
  rintro e w3 ⟨rfl, hb3, hw3⟩
  have hBw3 := hBw2.trans hw3
  clear hw3 hBw2 hb2
  go_wp2_with fail
  go_loopw [15] (fun i wr => i = .int .i64 0 ∧ wr = w3) (fun _ _ => 0)
  case atStart => exact ⟨rfl, rfl⟩
  case round =>
    obtain ⟨rfl, rfl⟩ := hrel
    go_wp2_with fail
    refine (bd_byte 93 hb3 (by simp only [List.length_append, List.length_cons, List.length_nil]; omega)).mono ?_
    rintro e w4 ⟨rfl, hb4, hw4⟩
    have hw5 := hBw3.trans hw4
    clear hBw3 hw4 hb3
    go_wp2_with fail
    refine (bd_string hb4).mono ?_
    rintro e w6 ⟨rfl, hw6⟩
    have hw7 := hw5.trans hw6
    clear hw5 hw6 hb4
    go_wp2_with fail
    go_ret
    exact ⟨ret_str (by congr 1), .of_below hw7⟩

theorem texts_any (v : Value) (zs : List (List UInt8)) (w : World) (hs : IsSl w v (zs.map (fun z => Value.string (S z)))) (hn : (zs.flatMap Wm.textE.f).length ≤ 4294967296) (hm : zs.length ≤ 4294967296) (hz : ∀ z ∈ zs, z.length ≤ 4611686018427387904) (ht : Tab w) :
    Calls Tryd.prog 19 #[v] w fun e w' => e = .returned (.string (S ((Wm.listE Wm.textE).f zs))) ∧ Fr w w' := by
  rcases hs with ⟨h0, a, c, rfl⟩ | ⟨b, o, c, rfl, hcell⟩
  · obtain rfl : zs = [] := by simpa using h0
    go_enter Tryd.func19, Tryd.ntmps19
    go_wp2_with fail
    refine (writeStrs0 a c _ ht).mono ?_
    rintro e w' ⟨rfl, hf⟩
    go_wp2_with fail
    go_ret
    exact ⟨rfl, hf⟩
  · have HC := Lib.hid hcell
    have HZ := Lib.hid hz
    clear hcell hz
    rw [List.length_map]
    go_enter Tryd.func19, Tryd.ntmps19
    go_wp2_with fail
    refine (writeStrs b o c zs _ HC.out hn hm HZ.out ht).mono ?_
    rintro e w' ⟨rfl, hf⟩
    go_wp2_with fail
    go_ret
    exact ⟨rfl, hf⟩

end Go.Proofs.YtjabpagfoclajaaDoor
