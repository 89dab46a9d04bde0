/-
  Contracts: small, number, kind, write, SameNums and SameTexts of the statements' package.
-/
import Derived.Test.YtjabpagfoclajaaDoorRrd
import Derived.Deep.QuietTactic
import Derived.BigQuiet
namespace Go.Proofs.YtjabpagfoclajaaDoor
open Go.RowKit

theorem enc_ex1 : (Wm.numE 59).f 0 = [48, 59] := by rw [Wm.numE_f]; simp [Lib.itoa, Lib.decDigits]
theorem enc_ex2 : (Wm.numE 59).f 300 = [51, 48, 48, 59] := by rw [Wm.numE_f]; simp [Lib.itoa, Lib.decDigits]
theorem enc_ex3 : (Wm.intE 59).f (-7) = [45, 55, 59] := by rw [Wm.intE_f]; simp [Lib.itoa, Lib.decDigits]
theorem enc_ex4 : (Wm.intE 59).f 7 = [55, 59] := by rw [Wm.intE_f]; simp [Lib.itoa, Lib.decDigits]
theorem enc_ex5 : Wm.textE.f [97, 44, 98] = [51, 58, 97, 44, 98, 44] := by rw [Wm.textE_f]; simp [Lib.itoa, Lib.decDigits]
theorem enc_ex6 : (Wm.listE (Wm.intE 59)).f [1, -1] = [50, 91, 49, 59, 45, 49, 59, 93] := by rw [Wm.listE_f]; simp [Lib.itoa, Lib.decDigits, Wm.intE_f]
theorem enc_ex7 : (Wm.listE Wm.textE).f [] = [48, 91, 93] := by rw [Wm.listE_f]; simp [Lib.itoa, Lib.decDigits]
theorem enc_ex8 : ∀ v q, (Wm.numE 59).dom v → [48, 48, 55, 59] ≠ (Wm.numE 59).f v ++ q := by
  intro v q hv e
  obtain ⟨u, rfl⟩ : ∃ u : Nat, v = u := ⟨v.toNat, by have := hv.1; omega⟩
  rw [Wm.numE_f, Lib.itoa_nonneg] at e
  have h := Wm.split_at Wm.isDig (l := [48, 48, 55]) (m := Lib.decDigits u) (r := []) (s := q) (e := 59) (f := 59) (by decide) (Wm.dec_dig u) (by decide) (by decide) (by simpa using e)
  have h2 := Wm.dec_two (u := u) (by rw [← h.1]; decide)
  rw [← h.1] at h2
  exact h2 rfl

set_option maxHeartbeats 2000000 in
theorem small_any (w : World) (ht : Tab w) :
    Calls Tryd.prog 9 #[] w fun e w' => e = .returned (.bool true) ∧ Fr w w' := by
  go_enter Tryd.func9, Tryd.ntmps9
  go_wp2_with fail
  refine (num_any 0 _ (by omega) (by omega) ht).mono ?_
  rintro e w1 ⟨rfl, hf1⟩
  rw [enc_ex1]
  have ht1 := ht.fr hf1
  go_wp2_with fail
  refine (num_any 300 _ (by omega) (by omega) ht1).mono ?_
  rintro e w2 ⟨rfl, hf2⟩
  rw [enc_ex2]
  have ht2 := ht1.fr hf2
  go_wp2_with fail
  refine (num_neg (-1) _ (by omega)).mono ?_
  rintro e w3 ⟨rfl, hf3⟩
  have ht3 := ht2.fr hf3
  go_wp2_with fail
  refine (int_any (-7) _ (by omega) (by omega) ht3).mono ?_
  rintro e w4 ⟨rfl, hf4⟩
  rw [enc_ex3]
  have ht4 := ht3.fr hf4
  go_wp2_with fail
  refine (int_any 7 _ (by omega) (by omega) ht4).mono ?_
  rintro e w5 ⟨rfl, hf5⟩
  rw [enc_ex4]
  have ht5 := ht4.fr hf5
  have hw5 : Fr w w5 := (((hf1.trans hf2).trans hf3).trans hf4).trans hf5
  clear hf1 hf2 hf3 hf4 hf5 ht1 ht2 ht3 ht4
  go_wp2_with fail
  refine (text_any [97, 44, 98] _ (by simp) ht5).mono ?_
  rintro e w6 ⟨rfl, hf6⟩
  rw [enc_ex5]
  have ht6 := ht5.fr hf6
  have hw6 := hw5.trans hf6
  clear hw5 hf6 ht5
  go_wp2_with fail
  have hsl : IsSl (w6.alloc (.cells #[.int .i64 1, .int .i64 (-1)] 3)) (.slice (some ⟨w6.heap.size, 0, none⟩) 2 2) ([1, -1].map (Value.int .i64)) := by
    refine .inr ⟨_, 0, 2, rfl, fun i x hx => ?_⟩
    match i, hx with
    | 0, hx => simp at hx; subst hx; simp
    | 1, hx => simp at hx; subst hx; simp
  refine (nums_any _ [1, -1] _ hsl (by rw [show (([1, -1] : List Int).flatMap (Wm.intE 59).f) = [49, 59, 45, 49, 59] from by simp [Wm.intE_f, Lib.itoa, Lib.decDigits]]; simp) (by simp) (by simp [Wm.inInt]) (ht6.alloc _)).mono ?_
  rintro e w7 ⟨rfl, hf7⟩
  rw [enc_ex6]
  have hf7' := (Fr.alloc w6 (.cells #[.int .i64 1, .int .i64 (-1)] 3)).trans hf7
  have ht7 := ht6.fr hf7'
  have hw7 := hw6.trans hf7'
  clear hw6 hf7 hf7' ht6 hsl
  go_wp2_with fail
  refine (texts_any _ [] _ (.inl ⟨rfl, _, _, rfl⟩) (by simp) (by simp) (by simp) ht7).mono ?_
  rintro e w8 ⟨rfl, hf8⟩
  rw [enc_ex7]
  have ht8 := ht7.fr hf8
  have hw8 := hw7.trans hf8
  clear hw7 hf8 ht7
  go_wp2_with fail
  refine (open_any [48, 48, 55, 59] _).mono ?_
  rintro e w9 ⟨rfl, hrd, hf9⟩
  have hw9 := hw8.trans hf9
  have hwb := hw8.size
  generalize w8.heap.size = b at *
  clear hw8 hf9 ht8
  go_wp2_with fail
  refine (rNum_any hrd (by simp)).mono ?_
  rintro e w10 ⟨hg, hf10⟩
  rcases hg with ⟨v, q, hv, he, _⟩ | ⟨_, rfl, hrd10⟩
  · exact absurd he (enc_ex8 v q hv)
  have hw10 : Fr w w10 := by
    refine ⟨hf10.os.trans hw9.os, hf10.tape.trans hw9.tape, hf10.output.trans hw9.output, Nat.le_trans hw9.size hf10.size, fun k hk _ => ?_⟩
    rw [hf10.block k (Nat.lt_of_lt_of_le hk hw9.size) (by simp; omega)]
    exact hw9.block k hk (by simp)
  clear hw9 hf10 hrd
  go_wp2_with fail
  refine (left_any hrd10).mono ?_
  rintro e w11 ⟨rfl, rfl⟩
  go_wp2_with fail
  refine (done_any hrd10).mono ?_
  rintro e w12 ⟨rfl, rfl⟩
  go_wp2_with fail
  go_ret
  exact ⟨rfl, hw10⟩

def vnum (n : Int) : Int := if n < 0 then -(n + 1) else n
theorem number_any' (n : Int) (w : World) (h0 : -9223372036854775808 ≤ n) (h1 : n ≤ 9223372036854775807) :
    Calls Tryd.prog 58 #[.int .i64 n] w fun e w' => e = .returned (.int .i64 (vnum n)) ∧ w' = w := by
  unfold vnum
  by_cases h : n < 0
  · rw [if_pos h]
    go_enter Tryd.func58, Tryd.ntmps58
    go_wp2
    go_ret
    exact ⟨rfl, rfl⟩
  · rw [if_neg h]
    go_enter Tryd.func58, Tryd.ntmps58
    go_wp2
    go_ret
    exact ⟨rfl, rfl⟩

/-- A Value of the statements' package: its numbers, its string, its two lists (as slices, and what they hold). -/
structure V where
  kd : Int
  n : Int
  s : List UInt8
  lv : Value
  tv : Value
  l : List Int
  t : List (List UInt8)
def V.val (v : V) : Value := .agg #[.int .i64 v.kd, .int .i64 v.n, .string (S v.s), v.lv, v.tv]
structure V.ok (v : V) (w : World) : Prop where
  kd : Wm.inInt v.kd
  n : Wm.inInt v.n
  lv : IsSl w v.lv (v.l.map (Value.int .i64))
  tv : IsSl w v.tv (v.t.map fun z => Value.string (S z))
  l : ∀ z ∈ v.l, Wm.inInt z
theorem V.ok.fr {v : V} {w w' : World} (h : v.ok w) (hf : Fr w w') : v.ok w' := ⟨h.kd, h.n, h.lv.fr hf, h.tv.fr hf, h.l⟩
def V.kind (v : V) : Int := if v.kd.tmod 5 < 0 then v.kd.tmod 5 + 5 else v.kd.tmod 5
theorem tmod5 (a : Int) : -5 < a.tmod 5 ∧ a.tmod 5 < 5 := by
  have h1 : ∀ n : Nat, ((n : Int).tmod 5) = ((n % 5 : Nat) : Int) := fun n => rfl
  rcases Int.eq_nat_or_neg a with ⟨n, rfl | rfl⟩
  · rw [h1]; omega
  · rw [Int.neg_tmod, h1]; omega
theorem V.kind_lt (v : V) : 0 ≤ v.kind ∧ v.kind ≤ 4 := by have := tmod5 v.kd; unfold V.kind; split <;> omega

set_option maxHeartbeats 400000 in
theorem kind_any (v : V) (w : World) (h : v.ok w) :
    Calls Tryd.prog 23 #[.agg #[.int .i64 v.kd, .int .i64 v.n, .string (S v.s), v.lv, v.tv]] w fun e w' => e = .returned (.int .i64 v.kind) ∧ Fr w w' := by
  obtain ⟨kd, n, s, lv, tv, l, t⟩ := v
  obtain ⟨a1, c1, hlv⟩ := h.lv.len
  obtain ⟨a2, c2, htv⟩ := h.tv.len
  simp only at hlv htv
  have hk := h.kd
  have hk0 := hk.1
  have hk1 := hk.2
  simp only at hk0 hk1
  subst hlv htv
  clear h hk
  simp only [V.kind]
  have ht1 := (tmod5 kd).1
  have ht2 := (tmod5 kd).2
  by_cases hneg : kd.tmod 5 < 0
  · rw [if_pos hneg]
    go_enter Tryd.func23, Tryd.ntmps23
    go_wp2
    go_ret
    exact ⟨rfl, Fr.alloc _ _⟩
  · rw [if_neg hneg]
    go_enter Tryd.func23, Tryd.ntmps23
    go_wp2
    go_ret
    exact ⟨rfl, Fr.alloc _ _⟩

def V.num (v : V) : Int := vnum v.n
theorem V.num_in (v : V) (h : Wm.inInt v.n) : Wm.inNum v.num := by
  have := h.1; have := h.2
  unfold V.num vnum Wm.inNum; split <;> omega
/-- The encoding of a value. -/
def V.enc (v : V) : List UInt8 :=
  if v.kind = 0 then (Wm.numE 59).f v.num else if v.kind = 1 then (Wm.intE 59).f v.n else if v.kind = 2 then Wm.textE.f v.s
  else if v.kind = 3 then (Wm.listE (Wm.intE 59)).f v.l else (Wm.listE Wm.textE).f v.t
/-- Small enough for what the walks need. -/
structure V.few (v : V) : Prop where
  l : v.l.length ≤ 400
  t : v.t.length ≤ 400
  s : v.s.length ≤ 400
  ts : ∀ x ∈ v.t, x.length ≤ 400
theorem flat_text_len {ss : List (List UInt8)} (h : ∀ x ∈ ss, x.length ≤ 400) : (ss.flatMap Wm.textE.f).length ≤ 500 * ss.length := by
  induction ss with
  | nil => simp
  | cons z zs ih =>
    have h0 := h z (by simp)
    have h1 := Lib.itoa_length_le z.length (by omega) (by omega)
    have h2 := ih (fun y hy => h y (by simp [hy]))
    have h3 : (Wm.textE.f z).length = (Lib.itoa z.length).length + (z.length + 2) := by simp [Wm.textE_f]
    simp only [List.flatMap_cons, List.length_append, List.length_cons]
    omega

theorem wr_nums (v : V) (w : World) (h : v.ok w) (hv : v.few) (ht : Tab w) : Calls Tryd.prog 17 #[v.lv] w fun e w' => e = .returned (.string (S ((Wm.listE (Wm.intE 59)).f v.l))) ∧ Fr w w' :=
  nums_any _ _ _ h.lv (by have := flat_len h.l; have := hv.l; omega) (by have := hv.l; omega) h.l ht
theorem wr_texts (v : V) (w : World) (h : v.ok w) (hv : v.few) (ht : Tab w) : Calls Tryd.prog 19 #[v.tv] w fun e w' => e = .returned (.string (S ((Wm.listE Wm.textE).f v.t))) ∧ Fr w w' :=
  texts_any _ _ _ h.tv (by have := flat_text_len hv.ts; have := hv.t; omega) (by have := hv.t; omega) (fun z hz => by have := hv.ts z hz; omega) ht
theorem rwr_nums (v : V) (w : World) (h : v.ok w) (hv : v.few) : Calls Tryd.prog 18 #[v.lv] w fun e w' => e = .returned (.string (S ((Wm.listE (Wm.intE 59)).f v.l))) ∧ Fr w w' :=
  rnums_any _ _ _ h.lv (by have := flat_len h.l; have := hv.l; omega) (by have := hv.l; omega) h.l
theorem rwr_texts (v : V) (w : World) (h : v.ok w) (hv : v.few) : Calls Tryd.prog 20 #[v.tv] w fun e w' => e = .returned (.string (S ((Wm.listE Wm.textE).f v.t))) ∧ Fr w w' :=
  rtexts_any _ _ _ h.tv (by have := flat_text_len hv.ts; have := hv.t; omega) (by have := hv.t; omega) (fun z hz => by have := hv.ts z hz; omega)

/-- What lies in the box that holds a Value. -/
def V.cells (v : V) : Array Value := #[.int .i64 v.kd, .int .i64 v.n, .string (S v.s), v.lv, v.tv]

/-- A box (block b) that holds a Value. -/
def Bx (b : Nat) (v : V) (w : World) : Prop := w.heap[b]? = some (.cells v.cells 25 (0, 0))
theorem Bx.new (w : World) (v : V) : Bx w.heap.size v (w.alloc (.cells #[.int .i64 v.kd, .int .i64 v.n, .string (S v.s), v.lv, v.tv] 25)) := heap_alloc_new w _
theorem Bx.fr {b : Nat} {v : V} {w w' : World} (h : Bx b v w) (hf : Fr w w') : Bx b v w' := hf.heap h
theorem Bx.cell {b : Nat} {v : V} {w : World} (h : Bx b v w) (j : Nat) : w.cell? ⟨b, j, none⟩ = v.cells[j]? := Lib.cell_of_heap h j
theorem Bx.lt {b : Nat} {v : V} {w : World} (h : Bx b v w) : b < w.heap.size := (Array.getElem?_eq_some_iff.1 h).1

set_option maxHeartbeats 1000000 in
theorem write_any (v : V) (w : World) (h : v.ok w) (hv : v.few) (ht : Tab w) :
    Calls Tryd.prog 42 #[.agg #[.int .i64 v.kd, .int .i64 v.n, .string (S v.s), v.lv, v.tv]] w fun e w' => e = .returned (.string (S v.enc)) ∧ Fr w w' := by
  have hk := v.kind_lt
  go_enter Tryd.func42, Tryd.ntmps42
  go_wp2_with fail
  have hb0 := Bx.new w v
  have hf0 := Fr.alloc w (.cells #[.int .i64 v.kd, .int .i64 v.n, .string (S v.s), v.lv, v.tv] 25)
  have hok := h.fr hf0
  refine (kind_any v _ hok).mono ?_
  rintro e w1 ⟨rfl, hf1⟩
  have hb1 := hb0.fr hf1
  have c1 := hb1.cell 1
  have c2 := hb1.cell 2
  have c3 := hb1.cell 3
  have c4 := hb1.cell 4
  simp only [V.cells, List.getElem?_toArray, List.getElem?_cons_succ, List.getElem?_cons_zero] at c1 c2 c3 c4
  have hfw := hf0.trans hf1
  have hok1 := hok.fr hf1
  have ht1 := ht.fr hfw
  have hn := h.n
  have hn1 := hn.1
  have hn2 := hn.2
  have hcase : v.kind = 0 ∨ v.kind = 1 ∨ v.kind = 2 ∨ v.kind = 3 ∨ v.kind = 4 := by omega
  have HOK := Lib.hid hok1
  have HV := Lib.hid hv
  clear hb0 hf0 hok hf1 hb1 hk hok1 hn h hv
  rcases hcase with hk | hk | hk | hk | hk
  · have HE : Hid (v.enc = (Wm.numE 59).f v.num) := by unfold V.enc; simp [hk, Hid]
    have HN := Lib.hid (v.num_in ⟨hn1, hn2⟩)
    go_wp2_with fail
    refine (number_any' v.n _ hn1 hn2).mono ?_
    rintro e w2 ⟨rfl, rfl⟩
    go_wp2_with fail
    refine (num_any v.num _ HN.out.1 HN.out.2 ht1).mono ?_
    rintro e w2 ⟨rfl, hf2⟩
    go_wp2_with fail
    go_ret
    exact ⟨ret_str (by rw [HE.out]), hfw.trans hf2⟩
  · have HE : Hid (v.enc = (Wm.intE 59).f v.n) := by unfold V.enc; simp [hk, Hid]
    go_wp2_with fail
    refine (int_any v.n _ hn1 hn2 ht1).mono ?_
    rintro e w2 ⟨rfl, hf2⟩
    go_wp2_with fail
    go_ret
    exact ⟨ret_str (by rw [HE.out]), hfw.trans hf2⟩
  · have HE : Hid (v.enc = Wm.textE.f v.s) := by unfold V.enc; simp [hk, Hid]
    go_wp2_with fail
    refine (text_any v.s _ (by have := HV.out.s; omega) ht1).mono ?_
    rintro e w2 ⟨rfl, hf2⟩
    go_wp2_with fail
    go_ret
    exact ⟨ret_str (by rw [HE.out]), hfw.trans hf2⟩
  · have HE : Hid (v.enc = (Wm.listE (Wm.intE 59)).f v.l) := by unfold V.enc; simp [hk, Hid]
    go_wp2_with fail
    refine (wr_nums v _ HOK.out HV.out ht1).mono ?_
    rintro e w2 ⟨rfl, hf2⟩
    go_wp2_with fail
    go_ret
    exact ⟨ret_str (by rw [HE.out]), hfw.trans hf2⟩
  · have HE : Hid (v.enc = (Wm.listE Wm.textE).f v.t) := by unfold V.enc; simp [hk, Hid]
    go_wp2_with fail
    refine (wr_texts v _ HOK.out HV.out ht1).mono ?_
    rintro e w2 ⟨rfl, hf2⟩
    go_wp2_with fail
    go_ret
    exact ⟨ret_str (by rw [HE.out]), hfw.trans hf2⟩
end Go.Proofs.YtjabpagfoclajaaDoor
