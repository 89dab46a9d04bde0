/-
  ViewBook: the walk, with a key and few turns.
-/
import Derived.Test.YtapdabebiinnnaaDoorVnr
import Derived.Test.YtapdabebiinnnaaDoorBld
import Derived.Test.YtapdabebiinnnaaDoorBe
namespace Go.Proofs.YtapdabebiinnnaaDoor
open Go.RowKit Go.MapKept Go.Maps Go.WideMaps

/-- Every block but b is as it was, if it holds no bytes. -/
def Kp (b : Nat) (w w' : World) : Prop := ∀ (K : Nat) (cs : Array Value) (T : TypeId) (fr : Nat × Nat), K ≠ b → w.heap[K]? = some (.cells cs T fr) → T ≠ 5 → w'.heap[K]? = some (.cells cs T fr)
theorem Kp.refl (b : Nat) (w : World) : Kp b w w := fun _ _ _ _ _ h _ => h
theorem Kp.set {b : Nat} {w w' : World} (h : Kp b w w') (i : Nat) (v : Value) : Kp b w (w'.setCell ⟨b, i, none⟩ v) := fun K cs T fr hK h1 hT => (heap_setCell_other w' ⟨b, i, none⟩ K v hK).trans (h K cs T fr hK h1 hT)
theorem copyCheckK (B b : Nat) (bs : List Value) (w : World) (h : Lib.IsBuilder 91 5 B b bs w) :
    Calls Tryd.prog 65 #[.pointer (some ⟨b, 0, none⟩)] w fun e w' => e = .returned (.tuple #[]) ∧ Lib.BuilderAt 91 5 B b (.pointer (some ⟨b, 0, none⟩)) bs w' ∧ Below B w w' ∧ Kp b w w' := by
  rcases h with h | h
  · refine (copyCheck_fresh b w h.cell0 h.shape h.frozen0).mono ?_
    rintro e w' ⟨rfl, rfl⟩
    exact ⟨rfl, h.used _, (Below.refl B w).setCell (p := ⟨b, 0, none⟩) h.1 _, (Kp.refl b w).set 0 _⟩
  · refine (copyCheck_used b w h.cell0).mono ?_
    rintro e w' ⟨rfl, rfl⟩
    exact ⟨rfl, h, Below.refl B _, Kp.refl b _⟩
set_option maxHeartbeats 2000000 in
set_option maxRecDepth 100000 in
theorem writeStringK (B b : Nat) (bs : List Value) (s : ByteArray) (w : World) (h : Lib.IsBuilder 91 5 B b bs w) (hlen : bs.length + s.size ≤ 140737488355328) (hBw : B ≤ w.heap.size) :
    Calls Tryd.prog 42 #[.pointer (some ⟨b, 0, none⟩), .string s] w fun e w' => e = .returned (.tuple #[.int .i64 s.size, .nilIface]) ∧ Lib.BuilderAt 91 5 B b (.pointer (some ⟨b, 0, none⟩)) (bs ++ Lib.strCells s) w' ∧ Below B w w' ∧ Kp b w w' := by
  obtain ⟨i0, hi, hz0, hz1, hz2⟩ := info_parts infoByte
  go_enter Tryd.func42, Tryd.ntmps42
  go_wp2_with (go_at_call 65; refine (copyCheckK B b bs _ h).mono ?_)
  rintro e w1 ⟨rfl, h1, hb1, hk1⟩
  obtain ⟨hB, v, hbk, hown, hne⟩ := h1
  have c0 : w1.cell? ⟨b, 0, none⟩ = some (.pointer (some ⟨b, 0, none⟩)) := by rw [Lib.cell_of_heap hbk]; rfl
  have c1 : w1.cell? ⟨b, 1, none⟩ = some v := by rw [Lib.cell_of_heap hbk]; rfl
  have HK1 := Lib.hid hk1
  clear hk1
  go_wp2_with (at_builtin; refine Lib.wpList_append_own_string _ rfl _ _ 89 9 rfl B 5 i0 Tryd.underlying89 Tryd.underlying9 hi hz0 hz1 hz2 _ _ _ rfl hown s rfl ?c3 ?c4 ?c5 ?_)
  case c3 => unfold maxLen; omega
  case c4 => omega
  case c5 => have := hb1.size; omega
  intro v' w2 hown' hgrow _
  have hlt : b < w1.heap.size := by
    rcases Nat.lt_or_ge b w1.heap.size with h' | h'
    · exact h'
    · simp [Array.getElem?_eq_none h'] at hbk
  have hb2 : w2.heap[b]? = some (.cells #[.pointer (some ⟨b, 0, none⟩), v] 91 (0, 0)) := by
    rw [hgrow.block b hlt (fun e => hne e.symm)]
    exact hbk
  have HK2 := Lib.hid (show Kp b w w2 from fun K cs T fr hK h1 hT => by
    have h2 := HK1.out K cs T fr hK h1 hT
    have hl : K < w1.heap.size := by
      rcases Nat.lt_or_ge K w1.heap.size with h' | h'
      · exact h'
      · simp [Array.getElem?_eq_none h'] at h2
    rw [hgrow.block K hl (fun e => Lib.ownBlock_ne hown h2 hT e.symm)]
    exact h2)
  have d0 : w2.cell? ⟨b, 0, none⟩ = some (.pointer (some ⟨b, 0, none⟩)) := by rw [Lib.cell_of_heap hb2]; rfl
  have d1 : w2.cell? ⟨b, 1, none⟩ = some v := by rw [Lib.cell_of_heap hb2]; rfl
  have f1 : w2.frozen? ⟨b, 1, none⟩ = false := Lib.frozen_of_heap hb2 1
  obtain ⟨ao, n', cap, rfl⟩ : ∃ ao n' cap, v' = .slice ao n' cap := by
    rcases hown'.2 with ⟨hv, _⟩ | ⟨g, cap, cur, hv, _⟩
    · exact ⟨_, _, _, hv⟩
    · exact ⟨_, _, _, hv⟩
  go_wp2
  go_ret2
  refine ⟨rfl, ?_, ?_, HK2.out.set 1 _⟩
  · exact Lib.BuilderAt.put (T := 91) (e := 5) hB hb2 (bs' := bs ++ Lib.strCells s) (by simpa [Lib.strCells_length] using hown') (by decide)
  · exact (hb1.grown hgrow (by have := hb1.size; omega) (fun k hk => (hown.lt k hk).1)).setCell (p := ⟨b, 1, none⟩) hB _

/-- The builder in block B, which the call has made itself, holds the bytes l. -/
def Bd (B : Nat) (l : List UInt8) (w : World) : Prop := Lib.IsBuilder 91 5 B B (Lib.byteCells l) w
theorem Bd.fresh (w : World) : Bd w.heap.size [] (w.alloc (.cells #[.pointer none, .slice none 0 0] 91)) := Lib.fresh_isBuilder _ _ w
theorem builderAt_fr {T e : TypeId} {B b : Nat} {p : Value} {bs : List Value} {w w' : World} (h : Lib.BuilderAt T e B b p bs w) (hf : Fr w w') : Lib.BuilderAt T e B b p bs w' := by
  obtain ⟨hB, v, hb, hown, hne⟩ := h
  exact ⟨hB, v, hf.heap hb, hown.kept hf (by cases v.ownBlock <;> simp), hne⟩
theorem Bd.fr {B : Nat} {l : List UInt8} {w w' : World} (h : Bd B l w) (hf : Fr w w') : Bd B l w' := by
  rcases h with h | h
  · exact .inl (builderAt_fr h hf)
  · exact .inr (builderAt_fr h hf)
theorem Bd.lt {B : Nat} {l : List UInt8} {w : World} (h : Bd B l w) : B < w.heap.size := by
  rcases h with h | h <;> exact h.lt
theorem bd_str {B : Nat} {l : List UInt8} (s : List UInt8) {w : World} (h : Bd B l w) (hl : l.length + s.length < 140737488355328) :
    Calls Tryd.prog 42 #[.pointer (some ⟨B, 0, none⟩), .string (S s)] w fun e w' => e = .returned (.tuple #[.int .i64 s.length, .nilIface]) ∧ Bd B (l ++ s) w' ∧ Below B w w' ∧ Kp B w w' := by
  refine (writeStringK B B _ _ w h (by rw [Lib.byteCells_length]; show l.length + s.length ≤ _; omega) (Nat.le_of_lt h.lt)).mono ?_
  rintro e w' ⟨rfl, h1, h2, h3⟩
  exact ⟨rfl, .inr (by rw [Lib.byteCells_append]; exact h1), h2, h3⟩
theorem bd_string {B : Nat} {l : List UInt8} {w : World} (h : Bd B l w) :
    Calls Tryd.prog 44 #[.pointer (some ⟨B, 0, none⟩)] w fun e w' => e = .returned (.string (S l)) ∧ Below B w w' :=
  Tryd.Builder_String_any B B l w h (Nat.le_of_lt h.lt)
/-- A builder that a call has made since the world w. -/
def BdF (w : World) (l : List UInt8) (w' : World) : Prop := Bd w.heap.size l w' ∧ Fr w w'
theorem BdF.fr {w w1 w2 : World} {l : List UInt8} (h : BdF w l w1) (hf : Fr w1 w2) : BdF w l w2 := ⟨h.1.fr hf, h.2.trans hf⟩
theorem BdF.str {w w1 : World} {l : List UInt8} (h : BdF w l w1) (s : List UInt8) (hl : l.length + s.length < 140737488355328) :
    Calls Tryd.prog 42 #[.pointer (some ⟨w.heap.size, 0, none⟩), .string (S s)] w1 fun e w' => e = .returned (.tuple #[.int .i64 s.length, .nilIface]) ∧ BdF w (l ++ s) w' ∧ Kp w.heap.size w1 w' := by
  refine (bd_str s h.1 hl).mono ?_
  rintro e w' ⟨rfl, h1, h2, h3⟩
  exact ⟨rfl, ⟨h1, Fr.of_below (h.2.below.trans h2)⟩, h3⟩
theorem BdF.string {w w1 : World} {l : List UInt8} (h : BdF w l w1) : Calls Tryd.prog 44 #[.pointer (some ⟨w.heap.size, 0, none⟩)] w1 fun e w' => e = .returned (.string (S l)) ∧ Fr w w' := by
  refine (bd_string h.1).mono ?_
  rintro e w' ⟨rfl, h2⟩
  exact ⟨rfl, Fr.of_below (h.2.below.trans h2)⟩

/-- The bytes of a view. -/
def sgE (s : Sg) : Txt := (Wm.numE 59).f s.2.2 ++ Wm.textE.f s.2.1
def byT (k : Int) (l : List Sg) : Txt := (Wm.numE 59).f k ++ (Wm.numE 59).f (l.length : Int) ++ l.flatMap sgE
theorem num_len (n : Int) (h0 : 0 ≤ n) (h1 : n ≤ 9223372036854775807) : ((Wm.numE 59).f n).length ≤ 40 := by
  have := Lib.itoa_length_le n (by omega) h1
  rw [Wm.numE_f]; simp; omega
theorem text_lenE (t : Txt) (h : t.length ≤ 20100) : (Wm.textE.f t).length ≤ 20200 := by
  have := Lib.itoa_length_le t.length (by omega) (by omega)
  rw [Wm.textE_f]; simp; omega
theorem flat_takeS (l : List Sg) (k : Nat) (h : k < l.length) : (l.take (k + 1)).flatMap sgE = (l.take k).flatMap sgE ++ ((Wm.numE 59).f l[k].2.2 ++ Wm.textE.f l[k].2.1) := by
  rw [List.take_add_one, List.getElem?_eq_getElem h, List.flatMap_append]; simp [sgE]
/-- Fit to be written. -/
def WOk (l : List Sg) : Prop := ∀ s ∈ l, (0 ≤ s.2.2 ∧ s.2.2 ≤ 9223372036854775807) ∧ s.2.1.length ≤ 20100
theorem sgE_len {s : Sg} (h : (0 ≤ s.2.2 ∧ s.2.2 ≤ 9223372036854775807) ∧ s.2.1.length ≤ 20100) : (sgE s).length ≤ 20240 := by
  have h1 := num_len _ h.1.1 h.1.2
  have h2 := text_lenE _ h.2
  unfold sgE
  rw [List.length_append]; omega
theorem flat_sg {l : List Sg} (h : WOk l) : (l.flatMap sgE).length ≤ l.length * 20240 := by
  induction l with
  | nil => simp
  | cons s l ih =>
    have h1 := sgE_len (h s (by simp))
    have h2 := ih (fun x hx => h x (by simp [hx]))
    rw [List.flatMap_cons, List.length_append, List.length_cons]; omega
theorem WOk.take {l : List Sg} (h : WOk l) (k : Nat) : WOk (l.take k) := fun s hs => h s (List.mem_of_mem_take hs)
theorem LOk.wok {q : List Sd} {k : Int} {l : List Sg} (h : LOk q k l) (hq : q.length ≤ 1000000) : WOk l := fun s hs => by
  obtain ⟨h1, h2⟩ := holds_get (h.val s hs)
  have h3 := (List.getElem?_eq_some_iff.1 h2).1
  have h4 := readC_some.1 (h.log s hs).1
  have h5 := textC_len h4.1
  rw [← h4.2] at h5
  refine ⟨⟨h1, by omega⟩, h5⟩
section
variable {W w : World} {B R : Nat} {k : Int} {l : List Sg} {d : VD} {U : Thing}
set_option maxHeartbeats 1000000 in
set_option maxRecDepth 100000 in
theorem vbytes (h : Has W w ((ViewT B R k l d).sep U)) (hk : IsKey k) (hn : l.length ≤ 100000) (hw : WOk l) (ht : Tab w) :
    Calls Tryd.prog 12 #[.pointer (some ⟨B, 0, none⟩)] w fun e w' => e = .returned (.string (S (byT k l))) ∧ Fr w w' := by
  have HB0 := Lib.hid (show BdF w [] (w.alloc (.cells #[.pointer none, .slice none 0 0] 91)) from ⟨Bd.fresh w, Fr.alloc _ _⟩)
  obtain ⟨p, hp⟩ := h.vopen
  have HG := Lib.hid (GSl.own hp.row rfl)
  obtain ⟨a, c, hav⟩ : ∃ a c, p.av = .slice a l.length c := row_form hp.row
  have c1 := hp.cell 1 (.int .i64 k) rfl
  have c2 := hp.cell 2 p.av rfl
  rw [hav] at c2 HG
  have HCS : Hid (∀ w', Fr w w' → w'.cell? ⟨B, 1, none⟩ = some (.int .i64 k) ∧ w'.cell? ⟨B, 2, none⟩ = some (.slice a l.length c)) := Lib.hid fun w' hf => ⟨hf.cell c1, hf.cell c2⟩
  have hk1 := hk.1
  have hk2 := hk.2
  have HN1 := Lib.hid (fun w' (hf : Fr w w') => num_any k w' hk1 (by omega) (ht.fr hf))
  have HN2 := Lib.hid (fun w' (hf : Fr w w') => num_any (l.length : Int) w' (by omega) (by omega) (ht.fr hf))
  have HL1 := Lib.hid (show ((Wm.numE 59).f k).length ≤ 40 from num_len k hk1 (by omega))
  have HL2 := Lib.hid (show ((Wm.numE 59).f (l.length : Int)).length ≤ 40 from num_len _ (by omega) (by omega))
  have HBY := Lib.hid (show byT k l = (Wm.numE 59).f k ++ (Wm.numE 59).f (l.length : Int) ++ l.flatMap sgE from rfl)
  have HW := Lib.hid hw
  have HT := Lib.hid ht
  generalize byT k l = z at *
  generalize (Wm.numE 59).f k = n1 at *
  generalize (Wm.numE 59).f (l.length : Int) = n2 at *
  have a1 : ∀ w', (Op.stringOp .add (S n1) (S n2)).run Tryd.prog w' = .ok (.string (S (n1 ++ n2))) w' := fun w' => run_concat w' _ _ (by have := HL1.out; have := HL2.out; omega)
  clear hp h hw ht hk
  go_enter Tryd.func12, Tryd.ntmps12
  go_upto_region 2 with fail
  obtain ⟨T, hTe⟩ : ∃ T, T = w.heap.size := ⟨_, rfl⟩
  generalize hw1 : w.alloc (.cells #[.pointer none, .slice none 0 0] 91) = w1 at *
  clear hw1
  have HD := Lib.hid (HCS.out _ (HB0.out.2.trans (Fr.drew w1)))
  have HB1 := Lib.hid (HB0.out.fr (Fr.drew w1))
  go_region_held_law (fun w' => w'.cell? ⟨B, 1, none⟩ = some (.int .i64 k) ∧ w'.cell? ⟨B, 2, none⟩ = some (.slice a l.length c))
    (first | exact HCS.out _ HB4.out.2 | exact HCS.out _ HB3.out.2 | exact HCS.out _ HB2.out.2 | exact HD.out)
    (first
      | (go_at_call 42; refine (HB3.out.str (n1 ++ n2) (by have := HL1.out; have := HL2.out; simp; omega)).mono ?_; rintro e w4 ⟨rfl, hb, _⟩; have HB4 := Lib.hid hb; clear hb)
      | (go_at_call 43; first
          | (refine (HN2.out _ HB2.out.2).mono ?_; rintro e w3 ⟨rfl, hf⟩; have HB3 := Lib.hid (HB2.out.fr hf); clear hf)
          | (refine (HN1.out _ HB1.out.2).mono ?_; rintro e w2 ⟨rfl, hf⟩; have HB2 := Lib.hid (HB1.out.fr hf); clear hf)))
  clear HB0 HB1 HB2 HB3 HD HN1 HN2
  have HB5 := Lib.hid (show BdF w (n1 ++ n2 ++ (l.take 0).flatMap sgE) w4 from by simpa using HB4.out)
  obtain ⟨c1, c2⟩ := HCS.out _ HB4.out.2
  clear HB4
  go_wp2_with fail
  go_loopw [24] (fun i wr => ∃ j : Nat, j ≤ l.length ∧ i = .int .i64 j ∧ Hid (BdF w (n1 ++ n2 ++ (l.take j).flatMap sgE) wr)) (fun i _ => l.length - (intOf i).toNat)
  case atStart => exact ⟨0, Nat.zero_le _, by go_num, HB5⟩
  case round =>
    obtain ⟨j, hj, rfl, HJ⟩ := hrel
    clear HB5 c1 c2
    by_cases hlt : j < l.length
    · rcases HG.out with ⟨h0, _⟩ | ⟨g, o, c', hv, hcell⟩
      · rw [h0] at hlt; exact absurd hlt (by simp)
      obtain ⟨rfl, rfl⟩ : a = some ⟨g, o, none⟩ ∧ c = c' := by simpa using hv
      have hcj := (hcell j hlt).fr HJ.out.2
      have s0 := hcj.c0
      have s1 := hcj.c1
      have s2 := hcj.c2
      have hwj := HW.out _ (List.getElem_mem hlt)
      have HFT := Lib.hid (flat_takeS l j hlt)
      have hfl : ((l.take j).flatMap sgE).length ≤ 100000 * 20240 := by
        have h1 := flat_sg (HW.out.take j)
        have h2 : (l.take j).length ≤ 100000 := by rw [List.length_take]; omega
        calc _ ≤ (l.take j).length * 20240 := h1
          _ ≤ 100000 * 20240 := Nat.mul_le_mul_right _ h2
      have HFL := Lib.hid hfl
      generalize l[j] = y at *
      obtain ⟨yk, yt, ym⟩ := y
      simp only at s0 s1 s2 hwj HFT
      have hm1 := hwj.1.1
      have hm2 := hwj.1.2
      have HN3 := Lib.hid (fun w' (hf : Fr w w') => num_any ym w' hm1 hm2 (HT.out.fr hf))
      have HN4 := Lib.hid (fun w' (hf : Fr w w') => text_any yt w' (by have := hwj.2; omega) (HT.out.fr hf))
      have HL3 := Lib.hid (num_len ym hm1 hm2)
      have HL4 := Lib.hid (text_lenE yt hwj.2)
      generalize (Wm.numE 59).f ym = m1 at *
      generalize Wm.textE.f yt = m2 at *
      have a2 : ∀ w', (Op.stringOp .add (S m1) (S m2)).run Tryd.prog w' = .ok (.string (S (m1 ++ m2))) w' := fun w' => run_concat w' _ _ (by have := HL3.out; have := HL4.out; omega)
      clear hcj hcell hv hwj hm1 hm2 hfl
      go_upto_region 6 with fail
      have HJ1 := Lib.hid ((HJ.out.fr (Fr.alloc wr (.cells #[.int .i64 yk, .string (S yt), .int .i64 ym] 37))).fr (Fr.drew _))
      have hYne : wr.heap.size ≠ w.heap.size := by have := HJ.out.1.lt; omega
      have HY : Hid (∀ w' : World, w'.heap[wr.heap.size]? = some (.cells #[.int .i64 yk, .string (S yt), .int .i64 ym] 37 (0, 0)) → w'.cell? ⟨wr.heap.size, 1, none⟩ = some (.string (S yt)) ∧ w'.cell? ⟨wr.heap.size, 2, none⟩ = some (.int .i64 ym)) := Lib.hid fun w' hf => ⟨cellOf hf rfl, cellOf hf rfl⟩
      have HA0 : Hid ((wr.alloc (.cells #[.int .i64 yk, .string (S yt), .int .i64 ym] 37)).drew.heap[wr.heap.size]? = some (.cells #[.int .i64 yk, .string (S yt), .int .i64 ym] 37 (0, 0))) := Lib.hid ((Fr.drew _).heap (heap_alloc_new wr _))
      have HYD := Lib.hid (HY.out _ HA0.out)
      go_region_held_law (fun w' => w'.cell? ⟨wr.heap.size, 1, none⟩ = some (.string (S yt)) ∧ w'.cell? ⟨wr.heap.size, 2, none⟩ = some (.int .i64 ym))
        (first | exact HY.out _ HA3.out | exact HY.out _ HA2.out | exact HY.out _ HA1.out | exact HYD.out)
        (first
          | (go_at_call 42; refine (HJ3.out.str (m1 ++ m2) (by have := HL1.out; have := HL2.out; have := HL3.out; have := HL4.out; have := HFL.out; simp only [List.length_append]; omega)).mono ?_; rintro e w7 ⟨rfl, hb, hk⟩; have HJ4 := Lib.hid hb; have HA3 := Lib.hid (hk _ _ _ _ hYne HA2.out (by decide)); clear hb hk)
          | (go_at_call 20; refine (HN4.out _ HJ2.out.2).mono ?_; rintro e w6 ⟨rfl, hf⟩; have HJ3 := Lib.hid (HJ2.out.fr hf); have HA2 := Lib.hid (hf.heap HA1.out); clear hf)
          | (go_at_call 43; refine (HN3.out _ HJ1.out.2).mono ?_; rintro e w5 ⟨rfl, hf⟩; have HJ2 := Lib.hid (HJ1.out.fr hf); have HA1 := Lib.hid (hf.heap HA0.out); clear hf))
      all_goals
        go_wp2_with fail
        go_roundw
        case rel => exact ⟨j + 1, by omega, by go_num, Lib.hid (by rw [HFT.out, ← List.append_assoc]; exact HJ4.out)⟩
        case measure => simp [intOf]; omega
    · have he : j = l.length := by omega
      subst he
      rw [List.take_length, ← HBY.out] at HJ
      go_wp2_with (go_at_call 44; refine HJ.out.string.mono ?_; rintro e wz ⟨rfl, hf⟩)
      go_ret
      exact ⟨rfl, hf⟩
end
end Go.Proofs.YtapdabebiinnnaaDoor
namespace Go.Proofs.YtapdabebiinnnaaDoor
open Go.RowKit Go.MapKept Go.Maps Go.WideMaps

/-- What has been accepted of the first n of a list. -/
noncomputable def lv (q : List Sd) (k : Int) (ss : List Sg) (n : Nat) : List Sg := (ss.take n).foldl (acl q k) []
theorem lv_zero (q : List Sd) (k : Int) (ss : List Sg) : lv q k ss 0 = [] := rfl
theorem lv_succ (q : List Sd) (k : Int) {ss : List Sg} {n : Nat} (h : n < ss.length) : lv q k ss (n + 1) = acl q k (lv q k ss n) ss[n] := by
  unfold lv
  rw [List.take_succ_eq_append_getElem h, List.foldl_append]; rfl
theorem lv_ok {q : List Sd} (k : Int) (hq : q.Nodup) (ss : List Sg) : ∀ n, n ≤ ss.length → LOk q k (lv q k ss n) ∧ (lv q k ss n).length ≤ n := by
  intro n
  induction n with
  | zero => intro _; exact ⟨LOk.nil _ _, Nat.le_refl _⟩
  | succ n ih =>
    intro h
    obtain ⟨h1, h2⟩ := ih (by omega)
    rw [lv_succ q k (by omega)]
    have := h1.acl hq ss[n]
    exact ⟨this.1, by omega⟩
theorem sl_bounds {l : List Sy} (hf : FewY l) : ∀ s ∈ sl l, (0 ≤ s.1 ∧ s.1 ≤ 1000000001) ∧ s.2.1.length ≤ 1000000001 ∧ (0 ≤ s.2.2 ∧ s.2.2 ≤ 1000000001) := by
  intro s hs
  unfold sl at hs
  obtain ⟨x, hx, rfl⟩ := List.mem_map.1 hs
  have hw := wo_len (hf.2 x hx).1
  have hb : (0 ≤ (zz (l.map sdOf) (sdOf x)).1 ∧ (zz (l.map sdOf) (sdOf x)).1 ≤ 1000000000) ∧ (zz (l.map sdOf) (sdOf x)).2.1.length ≤ 1000000000 ∧ (0 ≤ (zz (l.map sdOf) (sdOf x)).2.2 ∧ (zz (l.map sdOf) (sdOf x)).2.2 ≤ 1000000000) := by
    unfold zz
    split
    · rename_i h
      have h1 := h.1
      have h2 := h.2
      have h3 := px_le (l.map sdOf) (sdOf x)
      rw [List.length_map] at h3
      have h4 := hf.1
      unfold sgOf
      simp only
      refine ⟨⟨h1, by omega⟩, ?_, by omega, by omega⟩
      show (wo x).length ≤ _
      omega
    · simp
  generalize zz (l.map sdOf) (sdOf x) = z at *
  obtain ⟨a, t, m⟩ := z
  simp only at hb
  unfold tn
  repeat' split
  all_goals simp only [List.length_append, List.length_cons, List.length_nil]; omega
theorem sl_gok {l : List Sy} (hf : FewY l) {s : Sg} (hs : s ∈ sl l) : GOk s := by
  have := sl_bounds hf s hs
  refine ⟨⟨by omega, by omega⟩, by omega, ⟨by omega, by omega⟩⟩
theorem sl_len (l : List Sy) : (sl l).length = l.length := by unfold sl; rw [List.length_map]
theorem qs_nd (l : List Sy) : (qs l).Nodup := SL_nodup _
theorem qs_len (l : List Sy) : (qs l).length ≤ l.length := by have := SL_len (l.map sdOf); rw [List.length_map] at this; exact this

def rdF' (o : Option C) : Int := if o.isSome then 0 else 2
theorem rdF'_some (c : C) : rdF' (some c) = 0 := rfl
theorem readV_eq (o : Option C) : readV o = .tuple #[.agg #[.int .i64 (o.getD zeroC).k, .int .i64 (o.getD zeroC).n, .int .i64 (o.getD zeroC).t, .string (S (o.getD zeroC).s)], .int .i64 (rdF' o)] := by
  cases o <;> rfl
theorem clV_eq (o : Option Sg) : clV o = .tuple #[.agg #[.int .i64 (o.getD (0, [], 0)).1, .string (S (o.getD (0, [], 0)).2.1), .int .i64 (o.getD (0, [], 0)).2.2], .bool o.isSome] := by
  cases o <;> rfl
/-- A claim of a log, signed by the key. -/
noncomputable def mnB (q : List Sd) (k : Int) (s : Sg) : Bool := holds q s && decide (s.1 = k) && (match readC s.2.1 with | none => false | some c => decide (c.k ≤ 2))
section
variable {q : List Sd} {k : Int} {l : List Sg} {s : Sg}
theorem clR_some {x : Sg} (h : clR l s = some x) : x ∈ l ∧ ∃ c, readC s.2.1 = some c ∧ contra (clm x.2.1) c = true := by
  unfold clR at h
  cases hr : readC s.2.1 with
  | none => rw [hr] at h; exact absurd h (by simp)
  | some c =>
    rw [hr] at h
    simp only at h
    unfold clO at h
    exact ⟨List.mem_of_find?_eq_some h, c, rfl, by simpa using List.find?_some h⟩
theorem mn_yes (h : LOk q k l) (hq : q.Nodup) (hm : mnB q k s = true) : (aE q k l s = 0 ∧ clR l s = none) ∨ (aE q k l s = 21 ∧ acl q k l s = l ∧ ∃ x, clR l s = some x) := by
  unfold mnB at hm
  simp only [Bool.and_eq_true, decide_eq_true_eq] at hm
  obtain ⟨⟨h1, h2⟩, h3⟩ := hm
  cases hr : readC s.2.1 with
  | none => rw [hr] at h3; exact absurd h3 (by simp)
  | some c =>
    rw [hr] at h3
    have h4 : c.k ≤ 2 := by simpa using h3
    have hcl := readC_clm hr
    cases hb : (l.any fun a => contra (clm a.2.1) c) with
    | false =>
      refine .inl ⟨(aE_zero h hq s).2 ⟨h1, h2, ⟨c, hr, h4⟩, fun a ha => ?_⟩, ?_⟩
      · rw [hcl]
        rw [List.any_eq_false] at hb
        simpa using hb a ha
      · unfold clR; rw [hr]; exact clO_none hb
    | true =>
      have he := aE_split h hq h1 h2 hr h4 hb
      refine .inr ⟨he, acl_bad h hq (fun hg => ?_), ?_⟩
      · rw [(aE_zero h hq s).2 hg] at he; exact absurd he (by decide)
      · unfold clR; rw [hr]
        cases ho : clO l c with
        | some x => exact ⟨x, ho⟩
        | none =>
          unfold clO at ho
          rw [List.find?_eq_none] at ho
          obtain ⟨a, ha, hc⟩ := List.any_eq_true.1 hb
          exact absurd hc (ho a ha)
theorem mn_no (h : LOk q k l) (hq : q.Nodup) (hm : mnB q k s = false) : aE q k l s ≠ 0 ∧ aE q k l s ≠ 21 ∧ acl q k l s = l := by
  have hg : ¬ Good q k l s := fun ⟨h1, h2, ⟨c, h3, h4⟩, _⟩ => by
    unfold mnB at hm
    rw [h1, decide_eq_true h2, h3] at hm
    simp only [Bool.true_and, decide_eq_false_iff_not] at hm
    exact hm h4
  refine ⟨fun e => hg ((aE_zero h hq s).1 e), ?_, acl_bad h hq hg⟩
  unfold mnB at hm
  unfold aE accE
  cases hh : holds q s with
  | false => simp
  | true =>
    rw [hh] at hm
    by_cases hk : s.1 = k
    · cases hr : readC s.2.1 with
      | none => simp [hk]
      | some c =>
        rw [hr, decide_eq_true hk] at hm
        have h4 : ¬ c.k ≤ 2 := by simpa using hm
        simp [hk, h4]
    · simp [hk]
end
end Go.Proofs.YtapdabebiinnnaaDoor
namespace Go.Proofs.YtapdabebiinnnaaDoor
open Go.RowKit Go.MapKept Go.Maps Go.WideMaps

/-- An operation: its kind, its number and its string. -/
abbrev Op3 := Int × Int × Txt
/-- What is signed by an operation, if anything; the error; the number; the book then. -/
noncomputable def opO (s : BS) (o : Op3) : Option Sd :=
  if o.1 = 0 then none else if o.1 = 1 then enO s o.2.1 else if o.1 = 2 then hdO s o.2.1 else if o.1 = 3 then abO s o.2.2 o.2.1 else if o.2.1 = s.k then none else some (o.2.1, o.2.2)
noncomputable def opE (s : BS) (o : Op3) : Int :=
  if o.1 = 0 then apE o.2.2 else if o.1 = 1 then enE s o.2.1 else if o.1 = 2 then hdE s o.2.1 else if o.1 = 3 then abE s o.2.2 o.2.1 else 0
noncomputable def opN (s : BS) (o : Op3) : Int := if o.1 = 0 then apN s o.2.2 else 0
noncomputable def opB (s : BS) (o : Op3) : BS := if o.1 = 0 then apS s o.2.2 else if o.1 = 2 then hdS s o.2.1 else s
theorem signL_len (q : List Sd) (e : Sd) : (signL q e).length ≤ q.length + 1 := by
  unfold signL
  split
  · exact (addL_len q e).2
  · omega

theorem enO_none {s : BS} {i : Int} (h : txtO s i = none) : enO s i = none ∧ enE s i = 4 := by unfold enO enE; rw [h]; exact ⟨rfl, rfl⟩
theorem enO_some {s : BS} {i : Int} {t : Txt} (h : txtO s i = some t) : enO s i = some (s.k, textR ⟨0, i, 0, t⟩) ∧ enE s i = 0 := by unfold enO enE; rw [h]; exact ⟨rfl, rfl⟩
theorem ks_get {es : List Txt} {i : Nat} (h : i < es.length) : (ks es)[i]? = some (keyT es[i]) := by simp [ks, h]
theorem pm_first {es : List Txt} {k : Txt} {n : Nat} (h : pm 0 (ks es) k = some n) : ∃ hn : n < es.length, keyT es[n] = k := by
  have h1 := pm_get h
  have h2 := pm_lt h
  rw [ks_len] at h2
  rw [ks_get h2] at h1
  exact ⟨h2, Option.some.inj h1⟩
theorem pm_before {l : List Txt} {k : Txt} {n : Nat} (h : pm 0 l k = some n) : k ∉ l.take n := by
  intro hm
  have h2 := pm_lt h
  obtain ⟨m, hm2⟩ := pm_mem (i := 0) hm
  have h3 := pm_lt hm2
  have h4 : pm 0 (l.take n ++ l.drop n) k = some m := by rw [pm_pre hm]; exact hm2
  rw [List.take_append_drop, h] at h4
  cases h4
  rw [List.length_take] at h3
  omega
theorem signL_old {q : List Sd} {e : Sd} (h : e ∈ q) : signL q e = q := by
  unfold signL
  split
  · exact addL_old h
  · rfl
theorem signL_mem {q : List Sd} {e : Sd} (h : IsKey e.1) : e ∈ signL q e := by
  unfold signL; rw [if_pos h]
  exact mem_addL.2 (.inr rfl)
theorem signL_cut (q : List Sd) (e : Sd) : ∃ m, signL q e = q ++ m := by
  unfold signL
  split
  · exact addL_cut q e
  · exact ⟨[], by simp⟩
theorem signR_again {q : List Sd} {e : Sd} (m : List Sd) : signR (signL q e ++ m) e = signR q e := by
  unfold signR
  by_cases h : IsKey e.1
  · rw [if_pos h, if_pos h]
    have h1 : pm 0 (signL q e) e = some (addN q e) := by
      unfold signL; rw [if_pos h]; exact addN_spec q e
    have h2 : pm 0 (signL q e ++ m) e = some (addN q e) := by rw [pm_pre (signL_mem h)]; exact h1
    rw [addN_old h2]
  · rw [if_neg h, if_neg h]
theorem holds_sign {q : List Sd} {e : Sd} (h : IsKey e.1) (m : List Sd) : holds (signL q e ++ m) (signR q e) = true := by
  unfold holds signR
  rw [if_pos h]
  refine decide_eq_true ⟨Int.natCast_nonneg _, ?_⟩
  have h1 : (signL q e)[addN q e]? = some e := by unfold signL; rw [if_pos h]; exact addN_get q e
  simp only [Int.toNat_natCast]
  rw [List.getElem?_append_left (List.getElem?_eq_some_iff.1 h1).1, h1]

noncomputable def stepS (p : BS × List Sd) (o : Op3) : BS × List Sd := (opB p.1 o, qO p.2 (opO p.1 o))
noncomputable def runS (p : BS × List Sd) (l : List Op3) : BS × List Sd := l.foldl stepS p
theorem runS_take (p : BS × List Sd) (l : List Op3) (k : Nat) (h : k < l.length) : runS p (l.take (k + 1)) = stepS (runS p (l.take k)) l[k] := by
  unfold runS
  rw [List.take_succ_eq_append_getElem h, List.foldl_append]; rfl
theorem opB_key (s : BS) (o : Op3) : (opB s o).k = s.k := by
  unfold opB
  split
  · unfold apS; split <;> rfl
  · split
    · unfold hdS; split <;> rfl
    · rfl
theorem opB_es (s : BS) (o : Op3) : (opB s o).es = s.es ∨ (apB o.2.2 = true ∧ (opB s o).es = s.es ++ [o.2.2]) := by
  unfold opB
  split
  · unfold apS
    split
    · next h => exact .inr ⟨h, rfl⟩
    · exact .inl rfl
  · split
    · unfold hdS; split <;> exact .inl rfl
    · exact .inl rfl
theorem qO_len (q : List Sd) (x : Option Sd) : (qO q x).length ≤ q.length + 1 := by
  unfold qO
  split
  · omega
  · exact signL_len _ _
/-- What holds of the state after k operations. -/
structure StOk (key : Int) (k : Nat) (p : BS × List Sd) : Prop where
  key : p.1.k = key
  len : p.1.es.length ≤ k
  txt : ∀ t ∈ p.1.es, t.length ≤ 20000
  ring : p.2.length ≤ k
theorem StOk.step {key : Int} {k : Nat} {p : BS × List Sd} (h : StOk key k p) (o : Op3) : StOk key (k + 1) (stepS p o) := by
  refine ⟨(opB_key _ _).trans h.key, ?_, ?_, Nat.le_trans (qO_len _ _) (Nat.succ_le_succ h.ring)⟩
  · show (opB p.1 o).es.length ≤ k + 1
    rcases opB_es p.1 o with e | ⟨_, e⟩ <;> rw [e]
    · have := h.len; omega
    · rw [List.length_append]; have := h.len; simp; omega
  · show ∀ t ∈ (opB p.1 o).es, t.length ≤ 20000
    rcases opB_es p.1 o with e | ⟨ha, e⟩ <;> rw [e]
    · exact h.txt
    · intro t ht
      rcases List.mem_append.1 ht with ht | ht
      · exact h.txt t ht
      · rw [List.mem_singleton.1 ht]
        unfold apB at ha
        rw [Bool.and_eq_true] at ha
        exact of_decide_eq_true ha.2
theorem StOk.run {key : Int} {n : Nat} {p : BS × List Sd} (h : StOk key n p) (l : List Op3) : StOk key (n + l.length) (runS p l) := by
  induction l generalizing n p with
  | nil => exact h
  | cons o l ih =>
    have := ih (h.step o)
    rw [List.length_cons]
    rw [show n + (l.length + 1) = n + 1 + l.length by omega]
    exact this
theorem StOk.start (key : Int) : StOk key 0 (⟨key, [], 0, -1⟩, []) := ⟨rfl, Nat.le_refl _, by simp, Nat.le_refl _⟩
theorem StOk.ok {key : Int} {k : Nat} {p : BS × List Sd} (h : StOk key k p) (hk : k ≤ 1000) : p.1.ok := ⟨Nat.le_trans h.len hk, h.txt⟩
noncomputable def st (key : Int) (l : List Op3) (k : Nat) : BS × List Sd := runS (⟨key, [], 0, -1⟩, []) (l.take k)
theorem st_zero (key : Int) (l : List Op3) : st key l 0 = (⟨key, [], 0, -1⟩, []) := rfl
theorem st_succ (key : Int) (l : List Op3) (k : Nat) (h : k < l.length) : st key l (k + 1) = stepS (st key l k) l[k] := runS_take _ l k h
theorem st_ok (key : Int) (l : List Op3) (k : Nat) : StOk key k (st key l k) := by
  have h := (StOk.start key).run (l.take k)
  rw [Nat.zero_add] at h
  have hl : (l.take k).length ≤ k := by rw [List.length_take]; omega
  exact ⟨h.key, Nat.le_trans h.len hl, h.txt, Nat.le_trans h.ring hl⟩

/-! ### What an honest book signs -/
def TrueC (s : BS) (c : C) : Prop :=
  (∃ (i : Nat) (h : i < s.es.length), c = ⟨0, i, 0, s.es[i]⟩) ∨
  (c.k = 1 ∧ c.n ≤ s.n ∧ c.t ≤ s.t ∧ (c.t = s.t → c.n = s.n)) ∨
  (∃ (n : Int) (k : Txt), c = ⟨2, n, 0, k⟩ ∧ n ≤ s.es.length ∧ ∀ (i : Nat) (h : i < s.es.length), (i : Int) < n → keyT s.es[i] ≠ k)
structure Hon (s : BS) (q : List Sd) : Prop where
  ent : ∀ t ∈ s.es, (key t).isSome = true ∧ t.length ≤ 20000
  last : s.n ≤ s.es.length
  all : ∀ e ∈ q, e.1 = s.k → ∃ c, okB c = true ∧ e.2 = textC c
  tru : ∀ c, okB c = true → (s.k, textC c) ∈ q → TrueC s c
  siz : ∀ c d, okB c = true → okB d = true → (s.k, textC c) ∈ q → (s.k, textC d) ∈ q → c.k = 1 → d.k = 1 → (c.t = d.t → c.n = d.n) ∧ (c.t < d.t → c.n ≤ d.n)
theorem textC_inj {a b : C} (ha : okB a = true) (hb : okB b = true) (h : textC a = textC b) : a = b :=
  (textC_pf (r := []) (s := []) (ok_dom ha) (ok_dom hb) (by rw [h])).1
theorem key_of {t : Txt} (h : (key t).isSome = true) : key t = some (keyT t) := by
  obtain ⟨k, hk⟩ := Option.isSome_iff_exists.1 h
  rw [keyT_of hk]; exact hk
theorem Hon.start (key : Int) : Hon ⟨key, [], 0, -1⟩ [] := ⟨by simp, by simp, by simp, by simp, by simp⟩
/-- Nothing that was signed contradicts anything else that was. -/
theorem Hon.contra {s : BS} {q : List Sd} (h : Hon s q) {c d : C} (hc : okB c = true) (hd : okB d = true) (hcq : (s.k, textC c) ∈ q) (hdq : (s.k, textC d) ∈ q) : contra c d = false := by
  cases hx : Go.Proofs.YtapdabebiinnnaaDoor.contra c d with
  | false => rfl
  | true =>
    exfalso
    have hkinds := contra_kinds hx
    have hu : (okB c && okB d && (if c.k = d.k then alike c d else den c d || den d c)) = true := hx
    rw [hc, hd] at hu
    simp only [Bool.and_self, Bool.true_and] at hu
    have tc := h.tru c hc hcq
    have td := h.tru d hd hdq
    have absent_entry : ∀ (a b : C), TrueC s a → TrueC s b → a.k = 2 → b.k = 0 → den a b = true → False := by
      intro a b ta tb ha hb hden
      rcases ta with ⟨i, hi, rfl⟩ | ⟨h1, _⟩ | ⟨n, k, rfl, hn, hk⟩
      · exact absurd ha (show ¬ ((0 : Int) = 2) by decide)
      · rw [ha] at h1; exact absurd h1 (by decide)
      · rcases tb with ⟨i, hi, rfl⟩ | ⟨h1, _⟩ | ⟨n', k', rfl, _⟩
        · unfold den at hden
          simp only [Bool.and_eq_true, decide_eq_true_eq] at hden
          obtain ⟨⟨_, h2⟩, h3⟩ := hden
          have h4 := key_of (h.ent _ (List.getElem_mem hi)).1
          rw [h4] at h3
          exact hk i hi h2 (Option.some.inj h3)
        · rw [hb] at h1; exact absurd h1 (by decide)
        · exact absurd hb (show ¬ ((2 : Int) = 0) by decide)
    rcases hkinds with ⟨he, hne⟩ | ⟨h0, h2⟩ | ⟨h2, h0⟩
    · rw [if_pos he] at hu
      rcases tc with ⟨i, hi, rfl⟩ | ⟨h1, _⟩ | ⟨n, k, rfl, _⟩
      · rcases td with ⟨j, hj, rfl⟩ | ⟨h1, _⟩ | ⟨n, k, rfl, _⟩
        · unfold alike at hu
          simp only [if_true, decide_eq_true_eq] at hu
          have : i = j := by have := hu.1; omega
          subst this
          exact hu.2 rfl
        · rw [h1] at he; exact absurd he (show ¬ ((0 : Int) = 1) by decide)
        · exact absurd he (show ¬ ((0 : Int) = 2) by decide)
      · have hd1 : d.k = 1 := by rw [← he]; exact h1
        have s1 := h.siz c d hc hd hcq hdq h1 hd1
        have s2 := h.siz d c hd hc hdq hcq hd1 h1
        unfold alike szs at hu
        rw [if_neg (by rw [h1]; decide), if_pos h1] at hu
        simp only [Bool.or_eq_true, decide_eq_true_eq] at hu
        rcases hu with (⟨e, ne⟩ | ⟨l, g⟩) | ⟨l, g⟩
        · exact ne (s1.1 e)
        · have := s1.2 l; omega
        · have := s2.2 l; omega
      · exact hne rfl
    · rw [if_neg (by rw [h0, h2]; decide)] at hu
      rw [Bool.or_eq_true] at hu
      rcases hu with hu | hu
      · unfold den at hu
        simp only [Bool.and_eq_true, decide_eq_true_eq] at hu
        rw [h0] at hu
        exact absurd hu.1.1.1 (by decide)
      · exact absent_entry d c td tc h2 h0 hu
    · rw [if_neg (by rw [h0, h2]; decide)] at hu
      rw [Bool.or_eq_true] at hu
      rcases hu with hu | hu
      · exact absent_entry c d tc td h2 h0 hu
      · unfold den at hu
        simp only [Bool.and_eq_true, decide_eq_true_eq] at hu
        rw [h0] at hu
        exact absurd hu.1.1.1 (by decide)
theorem mem_signL {q : List Sd} {e x : Sd} (h : x ∈ signL q e) : x ∈ q ∨ x = e := by
  unfold signL at h
  split at h
  · exact mem_addL.1 h
  · exact .inl h
theorem Hon.other {s : BS} {q : List Sd} (h : Hon s q) (e : Sd) (he : e.1 ≠ s.k) : Hon s (signL q e) := by
  have hm : ∀ x, x ∈ signL q e → x.1 = s.k → x ∈ q := fun x hx hk => by
    rcases mem_signL hx with h1 | rfl
    · exact h1
    · exact absurd hk he
  exact ⟨h.ent, h.last, fun x hx hk => h.all x (hm x hx hk) hk, fun c hc hx => h.tru c hc (hm _ hx rfl), fun c d hc hd hx hy => h.siz c d hc hd (hm _ hx rfl) (hm _ hy rfl)⟩
theorem Hon.add {s : BS} {q : List Sd} (h : Hon s q) (c : C) (hc : okB c = true) (ht : TrueC s c)
    (hs : c.k = 1 → ∀ d, okB d = true → (s.k, textC d) ∈ q → d.k = 1 → ((c.t = d.t → c.n = d.n) ∧ (c.t < d.t → c.n ≤ d.n)) ∧ ((d.t = c.t → d.n = c.n) ∧ (d.t < c.t → d.n ≤ c.n))) : Hon s (signL q (s.k, textC c)) := by
  have hm : ∀ d, okB d = true → (s.k, textC d) ∈ signL q (s.k, textC c) → (s.k, textC d) ∈ q ∨ d = c := fun d hd hx => by
    rcases mem_signL hx with h1 | h1
    · exact .inl h1
    · exact .inr (textC_inj hd hc (congrArg Prod.snd h1))
  refine ⟨h.ent, h.last, fun x hx hk => ?_, fun d hd hx => ?_, fun d e hd he hx hy hdk hek => ?_⟩
  · rcases mem_signL hx with h1 | rfl
    · exact h.all x h1 hk
    · exact ⟨c, hc, rfl⟩
  · rcases hm d hd hx with h1 | rfl
    · exact h.tru d hd h1
    · exact ht
  · rcases hm d hd hx with h1 | rfl
    · rcases hm e he hy with h2 | rfl
      · exact h.siz d e hd he h1 h2 hdk hek
      · exact (hs hek d hd h1 hdk).2
    · rcases hm e he hy with h2 | rfl
      · exact (hs hdk e he h2 hek).1
      · exact ⟨fun _ => rfl, fun hlt => absurd hlt (by omega)⟩
theorem TrueC.push {s : BS} {c : C} (h : TrueC s c) (t : Txt) : TrueC { s with es := s.es ++ [t] } c := by
  rcases h with ⟨i, hi, rfl⟩ | h | ⟨n, k, rfl, hn, hk⟩
  · have hi2 : i < (s.es ++ [t]).length := by rw [List.length_append]; omega
    refine .inl ⟨i, hi2, ?_⟩
    show _ = C.mk 0 i 0 ((s.es ++ [t])[i]'hi2)
    rw [List.getElem_append_left hi]
  · exact .inr (.inl h)
  · refine .inr (.inr ⟨n, k, rfl, ?_, fun i hi hlt => ?_⟩)
    · show n ≤ ((s.es ++ [t]).length : Int)
      rw [List.length_append]; omega
    · have hil : i < s.es.length := by omega
      show keyT (s.es ++ [t])[i] ≠ k
      rw [List.getElem_append_left hil]
      exact hk i hil hlt
theorem Hon.push {s : BS} {q : List Sd} (h : Hon s q) (t : Txt) (ht : apB t = true) : Hon { s with es := s.es ++ [t] } q := by
  unfold apB at ht
  rw [Bool.and_eq_true] at ht
  refine ⟨fun u hu => ?_, ?_, h.all, fun c hc hx => (h.tru c hc hx).push t, h.siz⟩
  · rcases List.mem_append.1 hu with hu | hu
    · exact h.ent u hu
    · rw [List.mem_singleton.1 hu]; exact ⟨ht.1, of_decide_eq_true ht.2⟩
  · show s.n ≤ ((s.es ++ [t]).length : Int)
    have := h.last
    rw [List.length_append]; omega
theorem Hon.told {s : BS} {q : List Sd} (h : Hon s q) (now : Int) (h1 : ¬ (now < s.t ∨ (now = s.t ∧ (s.es.length : Int) ≠ s.n))) : Hon { s with n := s.es.length, t := now } q := by
  refine ⟨h.ent, Int.le_refl _, h.all, fun c hc hx => ?_, h.siz⟩
  rcases h.tru c hc hx with h2 | ⟨hk, hn, ht, he⟩ | h2
  · exact .inl h2
  · refine .inr (.inl ⟨hk, ?_, ?_, ?_⟩)
    · show c.n ≤ (s.es.length : Int)
      have := h.last; omega
    · show c.t ≤ now
      omega
    · intro e
      show c.n = (s.es.length : Int)
      have e : c.t = now := e
      have := he (by omega)
      omega
  · exact .inr (.inr h2)
theorem txtO_at {s : BS} {i : Int} {t : Txt} (h : txtO s i = some t) : ∃ (j : Nat) (hj : j < s.es.length), i = j ∧ s.es[j] = t := by
  obtain ⟨h0, h1, h2⟩ := txtO_yes h
  exact ⟨i.toNat, h1, by omega, h2⟩
theorem Hon.entry {s : BS} {q : List Sd} (h : Hon s q) (hlen : s.es.length ≤ 1000) (i : Int) : Hon s (qO q (enO s i)) := by
  cases ho : txtO s i with
  | none => rw [(enO_none ho).1]; exact h
  | some t =>
    rw [(enO_some ho).1]
    obtain ⟨j, hj, rfl, rfl⟩ := txtO_at ho
    have hb := h.ent _ (List.getElem_mem hj)
    have hok : okB ⟨0, j, 0, s.es[j]⟩ = true := (okB_iff _).2 ⟨Int.natCast_nonneg _, by show (j : Int) ≤ 199999; omega, by show (0 : Int) ≤ 0; omega, by show (0 : Int) ≤ 0; omega, by show (s.es[j].length : Int) ≤ 20000; omega, .inr hb.1⟩
    show Hon s (signL q (s.k, textR ⟨0, j, 0, s.es[j]⟩))
    unfold textR
    rw [if_pos hok]
    exact h.add _ hok (.inl ⟨j, hj, rfl⟩) (fun hk => absurd hk (show ¬ ((0 : Int) = 1) by decide))
theorem Hon.absent {s : BS} {q : List Sd} (h : Hon s q) (hlen : s.es.length ≤ 1000) (k : Txt) (n : Int) : Hon s (qO q (abO s k n)) := by
  by_cases hx : n < 0 ∨ (s.es.length : Int) < n ∨ 20000 < k.length
  · rw [(ab_arg hx).2]; exact h
  · have key : (∀ (i : Nat) (hi : i < s.es.length), (i : Int) < n → keyT s.es[i] ≠ k) → abO s k n = some (s.k, textR ⟨2, n, 0, k⟩) → Hon s (qO q (abO s k n)) := by
      intro hno he
      rw [he]
      have hok : okB ⟨2, n, 0, k⟩ = true := (okB_iff _).2 ⟨by show 0 ≤ n; omega, by show n ≤ 200000; omega, by show (0 : Int) ≤ 0; omega, by show (0 : Int) ≤ 0; omega, by show (k.length : Int) ≤ 20000; omega, .inl (by show (2 : Int) ≠ 0; decide)⟩
      show Hon s (signL q (s.k, textR ⟨2, n, 0, k⟩))
      unfold textR
      rw [if_pos hok]
      exact h.add _ hok (.inr (.inr ⟨n, k, rfl, by omega, hno⟩)) (fun hk => absurd hk (show ¬ ((2 : Int) = 1) by decide))
    cases hp : pm 0 (ks s.es) k with
    | none =>
      refine key (fun i hi _ e => pm_none.1 hp ?_) (ab_none hx hp).2
      exact List.mem_of_getElem? (i := i) (by rw [ks_get hi, e])
    | some j =>
      by_cases hj : (j : Int) < n
      · rw [(ab_there hx hp hj).2]; exact h
      · refine key (fun i hi hlt e => pm_before hp ?_) (ab_later hx hp hj).2
        exact List.mem_of_getElem? (i := i) (by rw [List.getElem?_take, if_pos (by omega), ks_get hi, e])
theorem Hon.head {s : BS} {q : List Sd} (h : Hon s q) (hlen : s.es.length ≤ 1000) (now : Int) : Hon (hdS s now) (qO q (hdO s now)) := by
  by_cases hx : now < 0 ∨ 1073741824 < now
  · obtain ⟨_, h2, h3⟩ := hd_arg (s := s) hx
    rw [h2, h3]; exact h
  · by_cases h2 : now < s.t ∨ (now = s.t ∧ (s.es.length : Int) ≠ s.n)
    · obtain ⟨_, h4, h5⟩ := hd_state hx h2
      rw [h4, h5]; exact h
    · obtain ⟨_, h4, h5⟩ := hd_ok hx h2
      rw [h4, h5]
      have hok : okB ⟨1, s.es.length, now, []⟩ = true := (okB_iff _).2 ⟨Int.natCast_nonneg _, by show (s.es.length : Int) ≤ 200000; omega, by show 0 ≤ now; omega, by show now ≤ 1073741824; omega, by show (0 : Int) ≤ 0; omega, .inl (by show (1 : Int) ≠ 0; decide)⟩
      show Hon { s with n := s.es.length, t := now } (signL q (s.k, textR ⟨1, s.es.length, now, []⟩))
      unfold textR
      rw [if_pos hok]
      have hT := h.told now h2
      refine Hon.add hT ⟨1, s.es.length, now, []⟩ hok (.inr (.inl ⟨rfl, Int.le_refl _, Int.le_refl _, fun _ => rfl⟩)) fun _ d hd hdq hdk => ?_
      rcases hT.tru d hd hdq with ⟨i, hi, rfl⟩ | ⟨_, hn, ht, he⟩ | ⟨n', k', rfl, _⟩
      · exact absurd hdk (show ¬ ((0 : Int) = 1) by decide)
      · have hn : d.n ≤ (s.es.length : Int) := hn
        have ht : d.t ≤ now := ht
        have he : d.t = now → d.n = (s.es.length : Int) := he
        refine ⟨⟨fun e => ?_, fun hlt => ?_⟩, ⟨fun e => he e, fun _ => hn⟩⟩
        · have e : now = d.t := e
          exact (he e.symm).symm
        · have hlt : now < d.t := hlt
          omega
      · exact absurd hdk (show ¬ ((2 : Int) = 1) by decide)
theorem Hon.step {s : BS} {q : List Sd} (h : Hon s q) (hlen : s.es.length ≤ 1000) (o : Op3) : Hon (opB s o) (qO q (opO s o)) := by
  unfold opB opO
  by_cases h0 : o.1 = 0
  · rw [if_pos h0, if_pos h0]
    show Hon (apS s o.2.2) q
    unfold apS
    split
    · next ha => exact h.push _ ha
    · exact h
  · rw [if_neg h0, if_neg h0]
    by_cases h1 : o.1 = 1
    · rw [if_pos h1, if_neg (by omega)]
      exact h.entry hlen _
    · rw [if_neg h1]
      by_cases h2 : o.1 = 2
      · rw [if_pos h2, if_pos h2]
        exact h.head hlen _
      · rw [if_neg h2, if_neg h2]
        by_cases h3 : o.1 = 3
        · rw [if_pos h3]
          exact h.absent hlen _ _
        · rw [if_neg h3]
          by_cases h4 : o.2.1 = s.k
          · rw [if_pos h4]; exact h
          · rw [if_neg h4]; exact h.other _ h4
theorem st_hon (key : Int) (l : List Op3) (k : Nat) (hk : k ≤ l.length) (h1 : l.length ≤ 1000) : Hon (st key l k).1 (st key l k).2 := by
  induction k with
  | zero => exact Hon.start key
  | succ k ih =>
    rw [st_succ key l k (by omega)]
    exact (ih (by omega)).step (by have := (st_ok key l k).len; omega) _
/-- What an operation of the book itself signs, if it makes no error. -/
theorem op_good (s : BS) (o : Op3) (h1 : 1 ≤ o.1) (h3 : o.1 ≤ 3) (he : opE s o = 0) : ∃ t, opO s o = some (s.k, t) := by
  unfold opE at he
  unfold opO
  rw [if_neg (show ¬ o.1 = 0 by omega)] at he ⊢
  by_cases e1 : o.1 = 1
  · rw [if_pos e1] at he ⊢
    cases ho : txtO s o.2.1 with
    | none => rw [(enO_none ho).2] at he; exact absurd he (by decide)
    | some t => exact ⟨_, (enO_some ho).1⟩
  · rw [if_neg e1] at he ⊢
    by_cases e2 : o.1 = 2
    · rw [if_pos e2] at he ⊢
      unfold hdO; rw [if_pos he]; exact ⟨_, rfl⟩
    · rw [if_neg e2] at he ⊢
      have e3 : o.1 = 3 := by omega
      rw [if_pos e3] at he ⊢
      unfold abO; rw [if_pos he]; exact ⟨_, rfl⟩
theorem op_valid {s : BS} {q : List Sd} (hk : IsKey s.k) (o : Op3) (h1 : 1 ≤ o.1) (h3 : o.1 ≤ 3) (he : opE s o = 0) : (sgO q (opO s o)).1 = s.k ∧ holds (qO q (opO s o)) (sgO q (opO s o)) = true := by
  obtain ⟨t, ht⟩ := op_good s o h1 h3 he
  rw [ht]
  refine ⟨?_, ?_⟩
  · show (signR q (s.k, t)).1 = s.k
    unfold signR; rw [if_pos (by exact hk)]
  · have := holds_sign (q := q) (e := (s.k, t)) hk []
    rw [List.append_nil] at this
    exact this
end Go.Proofs.YtapdabebiinnnaaDoor
namespace Go.Proofs.YtapdabebiinnnaaDoor
open Go.RowKit Go.MapKept Go.Maps Go.WideMaps

/-- A turn: its kind, its name, its text, its number. -/
abbrev Tu := Int × Txt × Txt × Int
def Tu.ok (u : Tu) : Prop := Wm.inInt u.1 ∧ u.2.1.length ≤ 9223372036854775807 ∧ u.2.2.1.length ≤ 9223372036854775807 ∧ Wm.inInt u.2.2.2
/-- The operation of a book that a turn is. -/
def tuO (key : Int) (u : Tu) : Op3 := if u.1 = 0 then (0, 0, Wm.textE.f u.2.1 ++ u.2.2.1) else if 1 ≤ u.1 ∧ u.1 ≤ 3 then (u.1, u.2.2.2, u.2.1) else (4, key, [])
/-- What is made in a turn: a signature, if there is one. -/
noncomputable def tuM (key : Int) (p : BS × List Sd) (u : Tu) : Option Sg := if 1 ≤ u.1 ∧ u.1 ≤ 3 ∧ opE p.1 (tuO key u) = 0 then some (sgO p.2 (opO p.1 (tuO key u))) else none
noncomputable def tst (key : Int) (l : List Tu) (k : Nat) : BS × List Sd := st key (l.map (tuO key)) k
noncomputable def tmd (key : Int) (l : List Tu) : Nat → List Sg
  | 0 => []
  | k + 1 => tmd key l k ++ (match l[k]? with | none => [] | some u => (tuM key (tst key l k) u).toList)
theorem tst_zero (key : Int) (l : List Tu) : tst key l 0 = (⟨key, [], 0, -1⟩, []) := rfl
theorem tst_succ (key : Int) (l : List Tu) (k : Nat) (h : k < l.length) : tst key l (k + 1) = stepS (tst key l k) (tuO key l[k]) := by
  unfold tst
  rw [st_succ _ _ _ (by simpa using h), List.getElem_map]
theorem tst_ok (key : Int) (l : List Tu) (k : Nat) : StOk key k (tst key l k) := st_ok key _ k
theorem tst_hon (key : Int) (l : List Tu) (k : Nat) (hk : k ≤ l.length) (h1 : l.length ≤ 1000) : Hon (tst key l k).1 (tst key l k).2 := st_hon key _ k (by simpa using hk) (by simpa using h1)
theorem tmd_succ (key : Int) (l : List Tu) (k : Nat) (h : k < l.length) : tmd key l (k + 1) = tmd key l k ++ (tuM key (tst key l k) l[k]).toList := by
  show tmd key l k ++ (match l[k]? with | none => [] | some u => (tuM key (tst key l k) u).toList) = _
  rw [List.getElem?_eq_getElem h]
theorem tmd_len (key : Int) (l : List Tu) (k : Nat) : (tmd key l k).length ≤ k := by
  induction k with
  | zero => simp [tmd]
  | succ k ih =>
    show (tmd key l k ++ (match l[k]? with | none => [] | some u => (tuM key (tst key l k) u).toList)).length ≤ k + 1
    rw [List.length_append]
    have : ((match l[k]? with | none => [] | some u => (tuM key (tst key l k) u).toList) : List Sg).length ≤ 1 := by
      cases l[k]? with
      | none => simp
      | some u =>
        show ((tuM key (tst key l k) u).toList).length ≤ 1
        cases tuM key (tst key l k) u <;> simp
    omega
theorem qO_cut (q : List Sd) (x : Option Sd) : ∃ m, qO q x = q ++ m := by
  cases x with
  | none => exact ⟨[], by simp [qO]⟩
  | some e => exact signL_cut q e
/-- All that was made holds, and is of the key. -/
theorem tmd_holds (key : Int) (hk : IsKey key) (l : List Tu) : ∀ k, k ≤ l.length → ∀ g ∈ tmd key l k, holds (tst key l k).2 g = true ∧ g.1 = key := by
  intro k
  induction k with
  | zero => intro _ g hg; simp [tmd] at hg
  | succ k ih =>
    intro h g hg
    rw [tmd_succ key l k (by omega)] at hg
    rw [tst_succ key l k (by omega)]
    obtain ⟨m, hm⟩ := qO_cut (tst key l k).2 (opO (tst key l k).1 (tuO key (l[k]'(by omega))))
    rcases List.mem_append.1 hg with hg | hg
    · obtain ⟨h1, h2⟩ := ih (by omega) g hg
      refine ⟨?_, h2⟩
      show holds (qO (tst key l k).2 (opO (tst key l k).1 (tuO key (l[k]'(by omega))))) g = true
      rw [hm]; exact holds_more m h1
    · have hkey := (tst_ok key l k).key
      unfold tuM at hg
      split at hg
      · rename_i hc
        obtain ⟨h1, h3, he⟩ := hc
        rw [Option.toList_some, List.mem_singleton] at hg
        subst hg
        have ho : (tuO key (l[k]'(by omega))).1 = (l[k]'(by omega)).1 := by unfold tuO; rw [if_neg (by omega), if_pos ⟨h1, h3⟩]
        have := op_valid (s := (tst key l k).1) (q := (tst key l k).2) (by rw [hkey]; exact hk) (tuO key (l[k]'(by omega))) (by rw [ho]; exact h1) (by rw [ho]; exact h3) he
        exact ⟨this.2, this.1.trans hkey⟩
      · simp at hg
section
variable {s : BS} {q : List Sd} {key : Int} {L : List Sg}
theorem TrueC.kind {c : C} (h : TrueC s c) : c.k ≤ 2 := by
  rcases h with ⟨i, hi, rfl⟩ | ⟨h, _⟩ | ⟨n, k, rfl, _⟩
  · show (0 : Int) ≤ 2; decide
  · omega
  · show (2 : Int) ≤ 2; decide
theorem hon_claim (h : Hon s q) (hs : s.k = key) {g : Sg} (hh : holds q g = true) (hg : g.1 = key) : ∃ c, okB c = true ∧ g.2.1 = textC c ∧ (s.k, textC c) ∈ q := by
  have h1 := List.mem_of_getElem? (holds_get hh).2
  obtain ⟨c, hc, he⟩ := h.all _ h1 (by rw [hs]; exact hg)
  refine ⟨c, hc, he, ?_⟩
  have he : g.2.1 = textC c := he
  rw [← he, hs, ← hg]; exact h1
theorem hon_good (h : Hon s q) (hs : s.k = key) (hl : LOk q key L) {g : Sg} (hh : holds q g = true) (hg : g.1 = key) : Good q key L g := by
  obtain ⟨c, hc, he, hq⟩ := hon_claim h hs hh hg
  have hr : readC g.2.1 = some c := readC_some.2 ⟨hc, he⟩
  refine ⟨hh, hg, ⟨c, hr, (h.tru c hc hq).kind⟩, fun a ha => ?_⟩
  obtain ⟨d, hd, hde, hdq⟩ := hon_claim h hs (hl.val a ha) (hl.key a ha)
  have hda : readC a.2.1 = some d := readC_some.2 ⟨hd, hde⟩
  rw [readC_clm hr, readC_clm hda]
  exact h.contra hd hc hdq hq
/-- What is known by the view is true of the book. -/
theorem hon_true (h : Hon s q) (hs : s.k = key) (hl : LOk q key L) {c : C} (hc : c ∈ cs L) : TrueC s c := by
  obtain ⟨a, ha, rfl⟩ := List.mem_map.1 hc
  obtain ⟨d, hd, hde, hdq⟩ := hon_claim h hs (hl.val a ha) (hl.key a ha)
  rw [readC_clm (readC_some.2 ⟨hd, hde⟩)]
  exact h.tru d hd hdq
theorem hon_size (h : Hon s q) (hs : s.k = key) (hl : LOk q key L) (hq : q.Nodup) : szN (vd L) ≤ s.es.length := by
  unfold szN
  cases ho : (vd L).hd.getLast? with
  | none => exact Int.natCast_nonneg _
  | some c =>
    have h1 := List.mem_of_getLast? ho
    rw [vd_hd] at h1
    obtain ⟨h2, h3⟩ := ((ld_hd (cs L) (hl.cok hq)).1 c).1 h1
    rcases hon_true h hs hl h2 with ⟨i, hi, rfl⟩ | ⟨_, hn, _⟩ | ⟨n, k, rfl, _⟩
    · exact absurd h3 (show ¬ ((0 : Int) = 1) by decide)
    · have := h.last
      show c.n ≤ s.es.length
      omega
    · exact absurd h3 (show ¬ ((2 : Int) = 1) by decide)
theorem hon_text (h : Hon s q) (hs : s.k = key) (hl : LOk q key L) (hq : q.Nodup) {i : Int} {t : Txt} (ht : (vd L).en i = some t) : txtO s i = some t := by
  rw [vd_en] at ht
  have h1 := (ld_en (cs L) (hl.cok hq) i t).1 ht
  rcases hon_true h hs hl h1 with ⟨j, hj, he⟩ | ⟨h2, _⟩ | ⟨n, k, he, _⟩
  · have e1 : i = (j : Int) := congrArg C.n he
    have e2 : t = s.es[j] := congrArg C.s he
    subst e1; subst e2
    unfold txtO
    rw [if_pos (Int.natCast_nonneg _), Int.toNat_natCast, List.getElem?_eq_getElem hj]
  · exact absurd h2 (show ¬ ((0 : Int) = 1) by decide)
  · exact absurd (congrArg C.k he) (show ¬ ((0 : Int) = 2) by decide)
theorem hon_absent (h : Hon s q) (hs : s.k = key) (hl : LOk q key L) (hq : q.Nodup) {name : Txt} {m : Int} (hm : (vd L).ab name = some m) : m ≤ s.es.length ∧ ∀ (i : Nat) (hi : i < s.es.length), (i : Int) < m → keyT s.es[i] ≠ name := by
  rw [vd_ab] at hm
  have h1 := ld_ab (cs L) (fun c hc => (ok_bounds ((hl.cok hq).ok c hc)).2.2.1) name
  rw [hm] at h1
  obtain ⟨⟨c, hc, h2, h3, h4⟩, _⟩ := h1
  rcases hon_true h hs hl hc with ⟨j, hj, rfl⟩ | ⟨h5, _⟩ | ⟨n, k, rfl, hn, hk⟩
  · exact absurd h2 (show ¬ ((0 : Int) = 2) by decide)
  · rw [h5] at h2; exact absurd h2 (by decide)
  · have h3 : k = name := h3
    have h4 : n = m := h4
    subst h3; subst h4
    exact ⟨hn, hk⟩
end
end Go.Proofs.YtapdabebiinnnaaDoor
namespace Go.Proofs.YtapdabebiinnnaaDoor
open Go.RowKit Go.MapKept Go.Maps Go.WideMaps

/-! ### A slice of turns -/
structure TuIn (w : World) (b i : Nat) (x : Tu) : Prop where
  c0 : w.cell? ⟨b, i, none⟩ = some (.int .i64 x.1)
  c1 : w.cell? ⟨b, i + 1, none⟩ = some (.string (S x.2.1))
  c2 : w.cell? ⟨b, i + 2, none⟩ = some (.string (S x.2.2.1))
  c3 : w.cell? ⟨b, i + 3, none⟩ = some (.int .i64 x.2.2.2)
theorem TuIn.fr {w w' : World} {b i : Nat} {x : Tu} (h : TuIn w b i x) (hf : Fr w w') : TuIn w' b i x := ⟨hf.cell h.c0, hf.cell h.c1, hf.cell h.c2, hf.cell h.c3⟩
def TuAt (w : World) (b o : Nat) (l : List Tu) : Prop := ∀ (i : Nat) (h : i < l.length), TuIn w b (o + i * 4) l[i]
theorem TuAt.fr {w w' : World} {b o : Nat} {l : List Tu} (h : TuAt w b o l) (hf : Fr w w') : TuAt w' b o l := fun i hi => (h i hi).fr hf
def TuSl (w : World) (v : Value) (l : List Tu) : Prop := (l = [] ∧ ∃ a c, v = .slice a 0 c) ∨ ∃ b o c, v = .slice (some ⟨b, o, none⟩) l.length c ∧ TuAt w b o l
theorem TuSl.fr {w w' : World} {v : Value} {l : List Tu} (h : TuSl w v l) (hf : Fr w w') : TuSl w' v l := by
  rcases h with h | ⟨b, o, c, hv, hc⟩
  · exact .inl h
  · exact .inr ⟨b, o, c, hv, hc.fr hf⟩
theorem TuSl.len {w : World} {v : Value} {l : List Tu} (h : TuSl w v l) : ∃ a c, v = .slice a l.length c := by
  rcases h with ⟨rfl, a, c, rfl⟩ | ⟨b, o, c, rfl, _⟩
  · exact ⟨a, c, rfl⟩
  · exact ⟨_, _, rfl⟩
theorem TuSl.get {w : World} {v : Value} {l : List Tu} (h : TuSl w v l) (h0 : 0 < l.length) : ∃ b o c, v = .slice (some ⟨b, o, none⟩) l.length c ∧ TuAt w b o l := by
  rcases h with ⟨rfl, _⟩ | h
  · exact absurd h0 (by decide)
  · exact h
/-- What is known of the arguments. -/
def TArg (l : List Tu) : Prop := l.length ≤ 9223372036854775807 ∧ ∀ x ∈ l, x.ok
def FewT (l : List Tu) : Prop := l.length ≤ 25 ∧ ∀ x ∈ l, x.2.1.length ≤ 100 ∧ x.2.2.1.length ≤ 100
instance (l : List Tu) : Decidable (FewT l) := by unfold FewT; exact inferInstance

/-! ### A slice of numbers -/
def IAt (w : World) (b o : Nat) (l : List Int) : Prop := ∀ (i : Nat) (h : i < l.length), w.cell? ⟨b, o + i, none⟩ = some (.int .i64 l[i])
def ISl (w : World) (v : Value) (l : List Int) : Prop := (l = [] ∧ ∃ a c, v = .slice a 0 c) ∨ ∃ b o c, v = .slice (some ⟨b, o, none⟩) l.length c ∧ IAt w b o l
theorem ISl.fr {w w' : World} {v : Value} {l : List Int} (h : ISl w v l) (hf : Fr w w') : ISl w' v l := by
  rcases h with h | ⟨b, o, c, hv, hc⟩
  · exact .inl h
  · exact .inr ⟨b, o, c, hv, fun i hi => hf.cell (hc i hi)⟩
theorem ISl.len {w : World} {v : Value} {l : List Int} (h : ISl w v l) : ∃ a c, v = .slice a l.length c := by
  rcases h with ⟨rfl, a, c, rfl⟩ | ⟨b, o, c, rfl, _⟩
  · exact ⟨a, c, rfl⟩
  · exact ⟨_, _, rfl⟩
theorem ISl.get {w : World} {v : Value} {l : List Int} (h : ISl w v l) (h0 : 0 < l.length) : ∃ b o c, v = .slice (some ⟨b, o, none⟩) l.length c ∧ IAt w b o l := by
  rcases h with ⟨rfl, _⟩ | h
  · exact absurd h0 (by decide)
  · exact h
def IArg (l : List Int) : Prop := l.length ≤ 9223372036854775807 ∧ ∀ x ∈ l, Wm.inInt x
set_option maxRecDepth 100000 in
theorem fewT_at (b o c : Nat) (l : List Tu) (w : World) (hc : TuAt w b o l) (hn : l.length ≤ 9223372036854775807) (hs : ∀ x ∈ l, x.2.1.length ≤ 9223372036854775807 ∧ x.2.2.1.length ≤ 9223372036854775807) :
    Calls Tryd.prog 17 #[.slice (some ⟨b, o, none⟩) l.length c, .int .i64 25] w fun e w' => e = .returned (.bool (decide (FewT l))) ∧ w' = w := by
  have HC := Lib.hid hc
  have HS := Lib.hid hs
  clear hc hs
  go_enter Tryd.func17, Tryd.ntmps17
  go_wp2_with fail
  go_loopw [5] (fun i wr => ∃ k : Nat, k ≤ l.length ∧ k ≤ 26 ∧ i = .int .i64 k ∧ wr = w ∧ Hid (∀ (j : Nat) (h : j < k) (h' : j < l.length), l[j].2.1.length ≤ 100 ∧ l[j].2.2.1.length ≤ 100)) (fun i _ => l.length - (intOf i).toNat)
  case atStart => exact ⟨0, Nat.zero_le _, by omega, rfl, rfl, Lib.hid (fun j h => by omega)⟩
  case round =>
    obtain ⟨k, hk, hk2, rfl, rfl, hA⟩ := hrel
    by_cases hlt : k < l.length
    · by_cases h26 : k < 26
      · have c1 := (HC.out k hlt).c1
        have c2 := (HC.out k hlt).c2
        have hsl := HS.out _ (List.getElem_mem hlt)
        have HN := Lib.hid (show ¬ (l[k].2.1.length ≤ 100 ∧ l[k].2.2.1.length ≤ 100) → decide (FewT l) = false from fun hb => decide_eq_false (fun h => hb (h.2 _ (List.getElem_mem hlt))))
        have HY := Lib.hid (show (l[k].2.1.length ≤ 100 ∧ l[k].2.2.1.length ≤ 100) → ∀ (j : Nat) (h : j < k + 1) (h' : j < l.length), l[j].2.1.length ≤ 100 ∧ l[j].2.2.1.length ≤ 100 from fun hb j h h' => by
          rcases Nat.lt_or_ge j k with hj | hj
          · exact hA.out j hj h'
          · obtain rfl : j = k := by omega
            exact hb)
        clear hA
        generalize l[k].2.1 = x at *
        generalize l[k].2.2.1 = y at *
        obtain ⟨hs1, hs2⟩ := hsl
        by_cases hb : x.length ≤ 100
        · by_cases hb2 : y.length ≤ 100
          · have HA := Lib.hid (HY.out ⟨hb, hb2⟩)
            clear HY HN
            go_wp2_with fail
            go_roundw
            case rel => exact ⟨k + 1, by omega, by omega, by go_num, trivial, HA⟩
            case measure => simp [intOf]; omega
          · have HD := Lib.hid (HN.out (fun h => hb2 h.2))
            clear HY HN
            go_wp2_with fail
            go_ret
            exact ⟨by rw [HD.out]; rfl, rfl⟩
        · have HD := Lib.hid (HN.out (fun h => hb h.1))
          clear HY HN
          go_wp2_with fail
          go_ret
          exact ⟨by rw [HD.out]; rfl, rfl⟩
      · have HD := Lib.hid (show decide (FewT l) = false from decide_eq_false (fun h => by have := h.1; omega))
        clear hA
        go_wp2_with fail
        go_ret
        refine ⟨?_, rfl⟩
        rw [HD.out]
        have : ¬ ((l.length : Int) ≤ 25) := by omega
        simp [this]
    · have HD := Lib.hid (show decide (FewT l) = decide ((l.length : Int) ≤ 25) by
        rw [Bool.eq_iff_iff]
        simp only [decide_eq_true_eq]
        constructor
        · intro h; have := h.1; omega
        · intro h
          refine ⟨by omega, fun s hs => ?_⟩
          obtain ⟨j, hj, rfl⟩ := List.getElem_of_mem hs
          exact hA.out j (by omega) hj)
      clear hA
      go_wp2_with fail
      go_ret
      exact ⟨by rw [HD.out]; rfl, rfl⟩
set_option maxRecDepth 100000 in
theorem fewT_nil (a : Option Addr) (c : Nat) (w : World) :
    Calls Tryd.prog 17 #[.slice a 0 c, .int .i64 25] w fun e w' => e = .returned (.bool true) ∧ w' = w := by
  go_enter Tryd.func17, Tryd.ntmps17
  go_wp2_with fail
  go_loopw [5] (fun i wr => i = .int .i64 0 ∧ wr = w) (fun _ _ => 0)
  case atStart => exact ⟨rfl, rfl⟩
  case round =>
    obtain ⟨rfl, rfl⟩ := hrel
    go_wp2_with fail
    go_ret
    exact ⟨rfl, rfl⟩
theorem fewT_any {v : Value} {l : List Tu} (w : World) (h : TuSl w v l) (ha : TArg l) :
    Calls Tryd.prog 17 #[v, .int .i64 25] w fun e w' => e = .returned (.bool (decide (FewT l))) ∧ w' = w := by
  rcases h with ⟨rfl, a, c, rfl⟩ | ⟨b, o, c, rfl, hc⟩
  · exact fewT_nil a c w
  · exact fewT_at b o c l w hc ha.1 fun x hx => ⟨(ha.2 x hx).2.1, (ha.2 x hx).2.2.1⟩


/-- The index that an order is. -/
theorem order_ix (x : Int) (n : Nat) (hn : 0 < n) (_hx : Wm.inInt x) (hN : n ≤ 1000) : ∃ j : Nat, j < n ∧ (x.tmod n + n).tmod n = (j : Int) ∧ (-1000 ≤ x.tmod n ∧ x.tmod n ≤ 1000) := by
  have h1 : -(n : Int) < x.tmod n ∧ x.tmod n < n := by
    have a := Int.tmod_lt_of_pos x (show (0 : Int) < n by omega)
    have b := Int.lt_tmod_of_pos x (show (0 : Int) < n by omega)
    exact ⟨b, a⟩
  have h2 : 0 ≤ x.tmod n + n := by omega
  have h3 := Int.tmod_lt_of_pos (x.tmod n + n) (show (0 : Int) < n by omega)
  have h4 := Int.tmod_nonneg (n : Int) h2
  exact ⟨((x.tmod n + n).tmod n).toNat, by omega, by omega, by omega, by omega⟩
end Go.Proofs.YtapdabebiinnnaaDoor
namespace Go.Proofs.YtapdabebiinnnaaDoor
open Go.RowKit Go.MapKept Go.Maps Go.WideMaps

theorem notKeyB {key : Int} (hk : ¬ IsKey key) : key < 0 ∨ (¬ key < 0 ∧ 200 ≤ key) := by
  rcases Int.lt_or_le key 0 with h | h
  · exact .inl h
  · exact .inr ⟨by omega, Int.not_lt.1 fun h' => hk ⟨h, h'⟩⟩
set_option maxHeartbeats 1000000 in
set_option maxRecDepth 100000 in
theorem book_not (v vo : Value) (l : List Tu) (os : List Int) (key : Int) (w : World) (h : TuSl w v l) (ha : TArg l) (ho : ISl w vo os) (hoa : IArg os) (hf : ¬ (FewT l ∧ os.length ≤ 80)) :
    Calls Tryd.prog 4 #[.int .i64 key, v, vo] w fun e w' => e = .returned (.bool true) ∧ Fr w w' := by
  have H := Lib.hid h
  have HA := Lib.hid ha
  obtain ⟨fb, hfb⟩ : ∃ fb, fb = decide (FewT l) := ⟨_, rfl⟩
  have HF := Lib.hid hfb
  have hb : fb = false ∨ (fb = true ∧ ¬ os.length ≤ 80) := by
    rw [hfb]
    by_cases h1 : FewT l
    · exact .inr ⟨decide_eq_true h1, fun h2 => hf ⟨h1, h2⟩⟩
    · exact .inl (decide_eq_false h1)
  obtain ⟨ao, co, rfl⟩ := ho.len
  have hol := hoa.1
  clear h ha hfb hf ho hoa
  go_enter Tryd.func4, Tryd.ntmps4
  rcases hb with rfl | ⟨rfl, hn⟩
  all_goals
    go_wp2_with (first
      | (go_at_call 17; refine (fewT_any _ (H.out.fr h2.toFr) HA.out).mono ?_; rw [← HF.out]; rintro e w3 ⟨rfl, rfl⟩)
      | (go_at_call 6; refine (((Has.here w).fr hf1).ring).mono ?_; rintro e w2 ⟨B, rfl, h2⟩)
      | (go_at_call 5; refine (small_any _).mono ?_; rintro e w1 ⟨rfl, hf1⟩))
    go_ret
    exact ⟨rfl, h2.toFr⟩
set_option maxHeartbeats 1000000 in
set_option maxRecDepth 100000 in
theorem book_nokey (v vo : Value) (l : List Tu) (os : List Int) (key : Int) (w : World) (h : TuSl w v l) (ha : TArg l) (ho : ISl w vo os) (hf : FewT l) (hos : os.length ≤ 80) (hk : ¬ IsKey key) :
    Calls Tryd.prog 4 #[.int .i64 key, v, vo] w fun e w' => e = .returned (.bool true) ∧ Fr w w' := by
  have H := Lib.hid h
  have HA := Lib.hid ha
  have HF := Lib.hid (show decide (FewT l) = true from decide_eq_true hf)
  have HK := Lib.hid hk
  have hb := notKeyB hk
  obtain ⟨ao, co, rfl⟩ := ho.len
  clear h ha hf ho hk
  go_enter Tryd.func4, Tryd.ntmps4
  go_upto_region 7 with (first
    | (go_at_call 9; refine (vnew_no _ key _ (.inr HK.out)).mono ?_; rintro e w5 ⟨rfl, hf5⟩)
    | (go_at_call 18; refine (bnew_no _ key _ HK.out).mono ?_; rintro e w4 ⟨rfl, hf4⟩)
    | (go_at_call 17; refine (fewT_any _ (H.out.fr h2.toFr) HA.out).mono ?_; rw [HF.out]; rintro e w3 ⟨rfl, rfl⟩)
    | (go_at_call 6; refine (((Has.here w).fr hf1).ring).mono ?_; rintro e w2 ⟨B, rfl, h2⟩)
    | (go_at_call 5; refine (small_any _).mono ?_; rintro e w1 ⟨rfl, hf1⟩))
  have HFX := Lib.hid ((h2.toFr.trans hf4).trans hf5)
  clear h2 hf1 hf4 hf5
  rcases hb with hb | ⟨hb0, hb⟩
  all_goals
    go_wp2_with fail
    go_ret
    exact ⟨rfl, HFX.out⟩

/-! ### A view beside a book, upon one ring -/
theorem qO_nodup {q : List Sd} (h : q.Nodup) (x : Option Sd) : (qO q x).Nodup := by
  unfold qO
  split
  · exact h
  · unfold signL
    split
    · exact addL_nodup h
    · exact h
theorem tst_nd (key : Int) (l : List Tu) : ∀ k, k ≤ l.length → (tst key l k).2.Nodup := by
  intro k
  induction k with
  | zero => intro _; exact List.nodup_nil
  | succ k ih =>
    intro h
    rw [tst_succ key l k (by omega)]
    exact qO_nodup (ih (by omega)) _
theorem Has.bacc {W w : World} {B R V : Nat} {s : BS} {q : List Sd} {k : Int} {L : List Sg} {U : Thing} (h : Has W w ((BookT B R s q).sep ((ViewT V R k L (vd L)).sep U))) (hl : LOk q k L) (hn : q.Nodup) (hq : q.length ≤ 1000000) (hll : L.length ≤ 100000) (g : Sg) (hg : GOk g) :
    Calls Tryd.prog 13 #[.pointer (some ⟨V, 0, none⟩), sgV g] w fun e w' => e = .returned (.int .i64 (aE q k L g)) ∧ Has W w' ((BookT B R s q).sep ((ViewT V R k (acl q k L g) (vd (acl q k L g))).sep U)) := by
  obtain ⟨M, ev, m, hb⟩ := h.bopen
  have hb' : Has W w ((ViewT V R k L (vd L)).sep ((RingT R q).sep _)) := Has.map hb fun _ h => sp5 h
  refine (vacc hb' hl hn hq hll g hg).mono ?_
  rintro e w' ⟨rfl, h1⟩
  exact ⟨rfl, BP.close (h1.map fun _ h => ps5 h)⟩
/-- Whatever the book has signed is accepted. -/
theorem hon_acc {s : BS} {q : List Sd} {key : Int} {L : List Sg} {g : Sg} (h : Hon s q) (hs : s.k = key) (hl : LOk q key L) (hq : q.Nodup) (hh : holds q g = true) (hg : g.1 = key) : aE q key L g = 0 := (aE_zero hl hq g).2 (hon_good h hs hl hh hg)
end Go.Proofs.YtapdabebiinnnaaDoor
namespace Go.Proofs.YtapdabebiinnnaaDoor
open Go.RowKit Go.MapKept Go.Maps Go.WideMaps

/-- What a turn gives: the signature and the error. -/
noncomputable def tuX (key : Int) (p : BS × List Sd) (u : Tu) : Sg := if 1 ≤ u.1 ∧ u.1 ≤ 3 then sgO p.2 (opO p.1 (tuO key u)) else (0, [], 0)
noncomputable def tuF (key : Int) (p : BS × List Sd) (u : Tu) : Int := if 1 ≤ u.1 ∧ u.1 ≤ 3 then opE p.1 (tuO key u) else 4
theorem tuM_eq (key : Int) (p : BS × List Sd) (u : Tu) : tuM key p u = if tuF key p u = 0 then some (tuX key p u) else none := by
  unfold tuM tuF tuX
  by_cases h : 1 ≤ u.1 ∧ u.1 ≤ 3
  · rw [if_pos h, if_pos h]
    by_cases he : opE p.1 (tuO key u) = 0
    · rw [if_pos ⟨h.1, h.2, he⟩, if_pos he]
    · rw [if_neg (fun hh => he hh.2.2), if_neg he]
  · rw [if_neg h, if_neg h, if_neg (fun hh => h ⟨hh.1, hh.2.1⟩), if_neg (by decide)]
section
variable {W w : World} {A B C E : Thing} {t : TypeId} {X : Nat} {v0 v1 v2 : Value}
theorem box4_at (h : Has W w (A.sep (B.sep (C.sep ((BoxT t X #[v0, v1, v2]).sep E))))) : w.heap[X]? = some (.cells #[v0, v1, v2] t (0, 0)) := (h.map fun _ h => sp4 h).boxed
theorem box4_set (h : Has W w (A.sep (B.sep (C.sep ((BoxT t X #[v0, v1, v2]).sep E))))) (u0 u1 u2 : Value) : Has W (((w.setCell ⟨X, 0, none⟩ u0).setCell ⟨X, 1, none⟩ u1).setCell ⟨X, 2, none⟩ u2) (A.sep (B.sep (C.sep ((BoxT t X #[u0, u1, u2]).sep E)))) :=
  ((((h.map fun _ h => sp4 h).set 0 u0).set 1 u1).set 2 u2).map fun _ h => ps4 h
end
set_option maxHeartbeats 4000000 in
set_option maxRecDepth 100000 in
theorem book_yes (v vo : Value) (l : List Tu) (os : List Int) (key : Int) (w : World) (ht : Tab w) (h : TuSl w v l) (ha : TArg l) (ho : ISl w vo os) (hoa : IArg os) (hf : FewT l) (hos : os.length ≤ 80) (hk : IsKey key) :
    Calls Tryd.prog 4 #[.int .i64 key, v, vo] w fun e w' => e = .returned (.bool true) ∧ Fr w w' := by
  have H := Lib.hid h
  have HA := Lib.hid ha
  have HFW := Lib.hid hf
  have HF := Lib.hid (show decide (FewT l) = true from decide_eq_true hf)
  have HK := Lib.hid hk
  have HT := Lib.hid ht
  have HO := Lib.hid ho
  have HOA := Lib.hid hoa
  have hll := hf.1
  obtain ⟨ao, co, rfl⟩ := ho.len
  obtain ⟨av, cv, rfl⟩ := h.len
  clear h ha hf ho hk ht hoa
  go_enter Tryd.func4, Tryd.ntmps4
  go_upto_region 9 with (first
    | (go_at_call 9; refine (vnew_yes h4 _ key HK.out).mono ?_; rintro e w5 ⟨V, rfl, h5⟩)
    | (go_at_call 18; refine (bnew_yes h2 key HK.out).mono ?_; rintro e w4 ⟨B, rfl, h4⟩)
    | (go_at_call 17; refine (fewT_any _ (H.out.fr h2.toFr) HA.out).mono ?_; rw [HF.out]; rintro e w3 ⟨rfl, rfl⟩)
    | (go_at_call 6; refine (((Has.here w).fr hf1).ring).mono ?_; rintro e w2 ⟨R, rfl, h2⟩)
    | (go_at_call 5; refine (small_any _).mono ?_; rintro e w1 ⟨rfl, hf1⟩))
  have H5 := Lib.hid ((h5.nilRow 37 3).map fun _ h => sep_under (sp3 h) fun _ h => sep_turn h)
  clear h2 h4 h5 hf1 HF
  go_wp2_with fail
  go_loopw [12, 13] (fun mv i wr => ∃ (k : Nat) (a0 : Option Addr) (c0 : Nat), k ≤ l.length ∧ i = .int .i64 k ∧ mv = .slice a0 (tmd key l k).length c0 ∧ Hid (Has w wr ((BookT B R (tst key l k).1 (tst key l k).2).sep ((ViewT V R key [] vd0).sep ((RowT 37 3 (.slice a0 (tmd key l k).length c0) (tmd key l k).length (sgC (tmd key l k))).sep .emp))))) (fun _ i _ => l.length - (intOf i).toNat)
  case atStart => exact ⟨0, none, 0, Nat.zero_le _, by go_num, rfl, H5⟩
  case round =>
    obtain ⟨k, a0, c0, hkl, rfl, rfl, HR⟩ := hrel
    clear H5
    by_cases hlt : k < l.length
    ·
      -- slow
      obtain ⟨b, o, c', hv, hc⟩ := H.out.get (by omega)
      obtain ⟨rfl, rfl⟩ : av = some ⟨b, o, none⟩ ∧ cv = c' := by simpa using hv
      have HC := Lib.hid (hc k hlt)
      have HX := Lib.hid (HA.out.2 _ (List.getElem_mem hlt))
      have HFE := Lib.hid (HFW.out.2 _ (List.getElem_mem hlt))
      have HTS := Lib.hid (tst_succ key l k hlt)
      have HTM := Lib.hid (tmd_succ key l k hlt)
      have HTO := Lib.hid (tst_ok key l k)
      clear hc hv
      obtain ⟨u, hu⟩ : ∃ u, u = l[k] := ⟨_, rfl⟩
      obtain ⟨p, hp⟩ : ∃ p, p = tst key l k := ⟨_, rfl⟩
      rw [← hu] at HC HX HFE HTS HTM
      rw [← hp] at HR HTS HTM HTO
      clear hu hp
      go_upto_region 14 with fail
      have H0 := Lib.hid ((HR.out.box 37 #[.int .i64 0, .string ⟨#[]⟩, .int .i64 0]).map fun _ h => ps4 h)
      obtain ⟨X, hX⟩ : ∃ X, X = wr.heap.size := ⟨_, rfl⟩
      rw [← hX] at H0 ⊢
      generalize wr.alloc (.cells #[.int .i64 0, .string ⟨#[]⟩, .int .i64 0] 37) = w6 at *
      clear hX HR
      obtain ⟨c1, c2, c3, c4⟩ := HC.out.fr H0.out.toFr
      obtain ⟨x, hx⟩ : ∃ x, x = tuX key p u := ⟨_, rfl⟩
      obtain ⟨E, hE⟩ : ∃ E, E = tuF key p u := ⟨_, rfl⟩
      obtain ⟨P, hP⟩ : ∃ P, P = stepS p (tuO key u) := ⟨_, rfl⟩
      have HE := Lib.hid (And.intro hx (And.intro hE hP))
      clear hx hE hP
      go_upto_block 2 with fail
      go_cut [15] (fun f wx => f = .int .i64 E ∧ Hid (Has w wx ((BookT B R P.1 P.2).sep ((ViewT V R key [] vd0).sep ((RowT 37 3 (.slice a0 (tmd key l k).length c0) (tmd key l k).length (sgC (tmd key l k))).sep ((BoxT 37 X #[.int .i64 x.1, .string (S x.2.1), .int .i64 x.2.2]).sep .emp))))))
      case first =>
        -- slow
        have hok := HTO.out.ok (by omega)
        have hql : p.2.length ≤ 1000000 := by have := HTO.out.ring; omega
        obtain ⟨uk, un, ut, ui⟩ := u
        simp only at c1 c2 c3 c4
        by_cases k0 : uk = 0
        · subst k0
          have hfe := HFE.out
          simp only at hfe
          have htl := text_lenE un (by omega)
          obtain ⟨nt, hnt⟩ : ∃ nt, nt = Wm.textE.f un := ⟨_, rfl⟩
          have HTX := Lib.hid (fun w' (hf : Fr w6 w') => text_any un w' (by omega) (HT.out.fr (H0.out.toFr.trans hf)))
          rw [← hnt] at htl HTX
          obtain rfl : x = (0, [], 0) := HE.out.1
          obtain rfl : E = 4 := HE.out.2.1
          have HP : Hid (P = (apS p.1 (nt ++ ut), p.2)) := Lib.hid (by rw [HE.out.2.2, hnt]; rfl)
          have HAP := Lib.hid (fun w' (hf : Fr w6 w') => bappend (H0.out.fr hf) (nt ++ ut) (by rw [List.length_append]; omega) hok.1)
          have a1 : ∀ w', (Op.stringOp .add (S nt) (S ut)).run Tryd.prog w' = .ok (.string (S (nt ++ ut))) w' := fun w' => run_concat w' _ _ (by omega)
          have HS : Hid (∀ w', Fr w w' → w'.cell? ⟨b, o + k * 4 + 1, none⟩ = some (.string (S un)) ∧ w'.cell? ⟨b, o + k * 4 + 2, none⟩ = some (.string (S ut))) := Lib.hid fun w' hf => ⟨hf.cell HC.out.c1, hf.cell HC.out.c2⟩
          have HSD := Lib.hid (HS.out _ (H0.out.toFr.trans (Fr.drew w6)))
          have hfd := Fr.drew w6
          clear hnt
          go_upto_region 17 with fail
          go_region_held_law (fun w' => w'.cell? ⟨b, o + k * 4 + 1, none⟩ = some (.string (S un)) ∧ w'.cell? ⟨b, o + k * 4 + 2, none⟩ = some (.string (S ut)))
            (first | exact HS.out _ H8.out.toFr | exact HS.out _ (H0.out.toFr.trans HF7.out) | exact HSD.out)
            (first
              | (go_at_call 19; refine (HAP.out _ HF7.out).mono ?_; rintro e w8 ⟨rfl, h8⟩; have H8 := Lib.hid h8; clear h8)
              | (go_at_call 20; refine (HTX.out _ hfd).mono ?_; rintro e w7 ⟨rfl, hf7⟩; have HF7 := Lib.hid (hfd.trans hf7); clear hf7))
          all_goals
            go_wp2_with fail
            go_meet
            exact ⟨rfl, by rw [HP.out]; exact H8⟩
        · by_cases k1 : uk = 1
          · subst k1
            have HEN : Hid (Calls Tryd.prog 21 #[.pointer (some ⟨B, 0, none⟩), .int .i64 ui] w6 fun e w' => e = .returned (.tuple #[.agg #[.int .i64 x.1, .string (S x.2.1), .int .i64 x.2.2], .int .i64 E]) ∧ Has w w' ((BookT B R P.1 P.2).sep ((ViewT V R key [] vd0).sep ((RowT 37 3 (.slice a0 (tmd key l k).length c0) (tmd key l k).length (sgC (tmd key l k))).sep ((BoxT 37 X #[.int .i64 0, .string ⟨#[]⟩, .int .i64 0]).sep .emp))))) := Lib.hid (by
              rw [HE.out.1, HE.out.2.1, HE.out.2.2]; exact bentry H0.out HT.out ui HX.out.2.2.2 hok hql)
            go_wp2_with (go_at_call 21; refine HEN.out.mono ?_; rintro e w7 ⟨rfl, h7⟩; have H8 := Lib.hid (box4_set h7 (.int .i64 x.1) (.string (S x.2.1)) (.int .i64 x.2.2)); have bx := box4_at h7; have r0 := cellOf bx (i := 0) rfl; have r1 := cellOf bx (i := 1) rfl; have r2 := cellOf bx (i := 2) rfl; have z0 := frozenOf bx 0; have z1 := frozenOf bx 1; have z2 := frozenOf bx 2; clear bx h7)
            go_meet
            exact ⟨rfl, H8⟩
          · by_cases k2 : uk = 2
            · subst k2
              have HEN : Hid (Calls Tryd.prog 22 #[.pointer (some ⟨B, 0, none⟩), .int .i64 ui] w6 fun e w' => e = .returned (.tuple #[.agg #[.int .i64 x.1, .string (S x.2.1), .int .i64 x.2.2], .int .i64 E]) ∧ Has w w' ((BookT B R P.1 P.2).sep ((ViewT V R key [] vd0).sep ((RowT 37 3 (.slice a0 (tmd key l k).length c0) (tmd key l k).length (sgC (tmd key l k))).sep ((BoxT 37 X #[.int .i64 0, .string ⟨#[]⟩, .int .i64 0]).sep .emp))))) := Lib.hid (by
                rw [HE.out.1, HE.out.2.1, HE.out.2.2]; exact bhead H0.out HT.out ui hok hql)
              go_wp2_with (go_at_call 22; refine HEN.out.mono ?_; rintro e w7 ⟨rfl, h7⟩; have H8 := Lib.hid (box4_set h7 (.int .i64 x.1) (.string (S x.2.1)) (.int .i64 x.2.2)); have bx := box4_at h7; have r0 := cellOf bx (i := 0) rfl; have r1 := cellOf bx (i := 1) rfl; have r2 := cellOf bx (i := 2) rfl; have z0 := frozenOf bx 0; have z1 := frozenOf bx 1; have z2 := frozenOf bx 2; clear bx h7)
              go_meet
              exact ⟨rfl, H8⟩
            · by_cases k3 : uk = 3
              · subst k3
                have HEN : Hid (∀ w', Fr w6 w' → Calls Tryd.prog 23 #[.pointer (some ⟨B, 0, none⟩), .string (S un), .int .i64 ui] w' fun e w' => e = .returned (.tuple #[.agg #[.int .i64 x.1, .string (S x.2.1), .int .i64 x.2.2], .int .i64 E]) ∧ Has w w' ((BookT B R P.1 P.2).sep ((ViewT V R key [] vd0).sep ((RowT 37 3 (.slice a0 (tmd key l k).length c0) (tmd key l k).length (sgC (tmd key l k))).sep ((BoxT 37 X #[.int .i64 0, .string ⟨#[]⟩, .int .i64 0]).sep .emp))))) := Lib.hid (fun w' hf => by
                  rw [HE.out.1, HE.out.2.1, HE.out.2.2]; exact babsent (H0.out.fr hf) HT.out un ui hok hql)
                have HS : Hid (∀ w', Fr w w' → w'.cell? ⟨b, o + k * 4 + 1, none⟩ = some (.string (S un)) ∧ w'.cell? ⟨b, o + k * 4 + 3, none⟩ = some (.int .i64 ui)) := Lib.hid fun w' hf => ⟨hf.cell HC.out.c1, hf.cell HC.out.c3⟩
                have HSD := Lib.hid (HS.out _ (H0.out.toFr.trans (Fr.drew w6)))
                have hfd := Fr.drew w6
                go_upto_region 23 with fail
                go_region_held_law (fun w' => w'.cell? ⟨b, o + k * 4 + 1, none⟩ = some (.string (S un)) ∧ w'.cell? ⟨b, o + k * 4 + 3, none⟩ = some (.int .i64 ui))
                  (first | exact HS.out _ H8.out.toFr | exact HS.out _ H7b.out.toFr | exact HS.out _ H7a.out.toFr | exact HS.out _ H7.out.toFr | exact HSD.out)
                  (first | (go_at_call 23; refine (HEN.out _ hfd).mono ?_; rintro e w7 ⟨rfl, h7⟩; have H7 := Lib.hid h7; have H8 := Lib.hid (box4_set h7 (.int .i64 x.1) (.string (S x.2.1)) (.int .i64 x.2.2)); have H7a := Lib.hid (((h7.map fun _ h => sp4 h).set 0 (.int .i64 x.1))); have H7b := Lib.hid (((h7.map fun _ h => sp4 h).set 0 (.int .i64 x.1)).set 1 (.string (S x.2.1))); have bx := box4_at h7; have r0 := cellOf bx (i := 0) rfl; have r1 := cellOf bx (i := 1) rfl; have r2 := cellOf bx (i := 2) rfl; have z0 := frozenOf bx 0; have z1 := frozenOf bx 1; have z2 := frozenOf bx 2; clear bx h7))
                all_goals
                  go_wp2_with fail
                  go_meet
                  exact ⟨rfl, H8⟩
              · have e0 : (uk == 0) = false := by simpa using k0
                have e1 : (uk == 1) = false := by simpa using k1
                have e2 : (uk == 2) = false := by simpa using k2
                have e3 : (uk == 3) = false := by simpa using k3
                have hop : tuO key (uk, un, ut, ui) = (4, key, []) := by unfold tuO; rw [if_neg k0, if_neg (by omega)]
                have hkd : ¬ (1 ≤ uk ∧ uk ≤ 3) := by omega
                obtain rfl : x = (0, [], 0) := by rw [HE.out.1]; unfold tuX; rw [if_neg hkd]
                obtain rfl : E = 4 := by rw [HE.out.2.1]; unfold tuF; rw [if_neg hkd]
                obtain rfl : P = p := by
                  rw [HE.out.2.2, hop]
                  show (opB p.1 (4, key, []), qO p.2 (opO p.1 (4, key, []))) = p
                  have h1 : opO p.1 (4, key, []) = none := by
                    unfold opO
                    rw [if_neg (show ¬ ((4 : Int) = 0) by decide), if_neg (show ¬ ((4 : Int) = 1) by decide), if_neg (show ¬ ((4 : Int) = 2) by decide), if_neg (show ¬ ((4 : Int) = 3) by decide), if_pos HTO.out.key.symm]
                  rw [h1]; rfl
                go_wp2_with fail
                go_meet
                exact ⟨rfl, H0⟩
        -- /slow
      case rest =>
        rename World => w9
        obtain ⟨rfl, H9⟩ := hcut
        have HMK := Lib.hid (show tmd key l (k + 1) = tmd key l k ++ (if E = 0 then [x] else []) from by
          rw [HTM.out, tuM_eq, ← HE.out.1, ← HE.out.2.1]
          split <;> rfl)
        have HPP := Lib.hid (show tst key l (k + 1) = P from by rw [HTS.out, HE.out.2.2])
        clear H0 HE HTM HTS HX HFE HC c1 c2 c3 c4
        by_cases he : E = 0
        · subst he
          rw [if_pos rfl] at HMK
          obtain ⟨i0, hi, hz0, hz1, hz2⟩ := info_parts infoSg
          have HIN := Lib.hid hi
          have bx := box4_at H9.out
          have r0 := cellOf bx (i := 0) rfl
          have r1 := cellOf bx (i := 1) rfl
          have r2 := cellOf bx (i := 2) rfl
          have hml := tmd_len key l k
          have H9' := Lib.hid (H9.out.pull3)
          clear bx hi
          go_upto_region 12 with (at_builtin; refine wpList_app rfl _ _ 27 rfl 37 i0 (.agg #[.int .i64 0, .string (S []), .int .i64 0]) 3 32 Tryd.underlying27 HIN.out hz0 hz1 hz2 rfl (by decide) rfl H9'.out 1 1 [.int .i64 x.1, .string (S x.2.1), .int .i64 x.2.2] rfl rfl (by simp [Value.oneCell']) (by decide) (by omega) (by decide) ?_; intro a1g cc1 w10 h10)
          have hlen : (tmd key l k).length + 1 = (tmd key l (k + 1)).length := by rw [HMK.out]; simp
          have HS10 := Lib.hid (show Has w w10 ((BookT B R (tst key l (k + 1)).1 (tst key l (k + 1)).2).sep ((ViewT V R key [] vd0).sep ((RowT 37 3 (.slice (some ⟨a1g, 0, none⟩) (tmd key l (k + 1)).length cc1) (tmd key l (k + 1)).length (sgC (tmd key l (k + 1)))).sep .emp))) from by
            have e : sgC (tmd key l (k + 1)) = sgC (tmd key l k) ++ [.int .i64 x.1, .string (S x.2.1), .int .i64 x.2.2] := by rw [HMK.out, sgC_append]; simp [sgC]
            rw [e, ← hlen, HPP.out]
            exact ((h10.map fun _ h => ps3 h).pull4.right))
          rw [hlen]
          clear h10 H9 H9' r0 r1 r2
          go_wp2_with fail
          go_roundw
          case rel => exact ⟨k + 1, some ⟨a1g, 0, none⟩, cc1, by omega, by go_num, rfl, HS10⟩
          case measure => simp [intOf]; omega
        · have he' : (E == 0) = false := by simpa using he
          rw [if_neg he, List.append_nil] at HMK
          go_wp2_with fail
          go_roundw
          case rel => exact ⟨k + 1, a0, c0, by omega, by go_num, by rw [HMK.out], Lib.hid (by rw [HMK.out, HPP.out]; exact H9.out.pull4.right)⟩
          case measure => simp [intOf]; omega
      -- /slow
    · obtain rfl : k = l.length := by omega
      have HHO := Lib.hid (tst_hon key l l.length (Nat.le_refl _) (by omega))
      have HST := Lib.hid (tst_ok key l l.length)
      have HQN := Lib.hid (tst_nd key l l.length (Nat.le_refl _))
      have HMH := Lib.hid (tmd_holds key HK.out l l.length (Nat.le_refl _))
      have hml : (tmd key l l.length).length ≤ 25 := by have := tmd_len key l l.length; omega
      obtain ⟨P, hP⟩ : ∃ P, P = tst key l l.length := ⟨_, rfl⟩
      obtain ⟨M, hM⟩ : ∃ M, M = tmd key l l.length := ⟨_, rfl⟩
      rw [← hP] at HR HHO HST HQN HMH
      rw [← hM] at HR HMH hml ⊢
      clear hP hM
      have HQL := Lib.hid (show P.2.length ≤ 1000000 from by have := HST.out.ring; omega)
      have HGO := Lib.hid (show ∀ g ∈ M, GOk g from fun g hg => by
        obtain ⟨h1, h2⟩ := HMH.out g hg
        obtain ⟨c, hc, he, _⟩ := hon_claim HHO.out HST.out.key h1 h2
        have h3 := textC_len hc
        obtain ⟨h4, h5⟩ := holds_get h1
        have h6 := (List.getElem?_eq_some_iff.1 h5).1
        have h7 := HQL.out
        have h8 := HK.out.1
        have h9 := HK.out.2
        refine ⟨by rw [h2]; exact ⟨by omega, by omega⟩, by rw [he]; omega, ⟨by omega, by omega⟩⟩)
      have HAC := Lib.hid (fun (w' : World) (L : List Sg) (U : Thing) (h : Has w w' ((BookT B R P.1 P.2).sep ((ViewT V R key L (vd L)).sep U))) (hl : LOk P.2 key L) (hll : L.length ≤ 1000) (g : Sg) (hg : g ∈ M) => show Calls Tryd.prog 13 #[.pointer (some ⟨V, 0, none⟩), sgV g] w' fun e w2 => e = .returned (.int .i64 0) ∧ ∃ L', Hid (LOk P.2 key L') ∧ L'.length ≤ L.length + 1 ∧ Hid (Has w w2 ((BookT B R P.1 P.2).sep ((ViewT V R key L' (vd L')).sep U))) from by
        obtain ⟨h1, h2⟩ := HMH.out g hg
        refine (Has.bacc h hl HQN.out HQL.out (by omega) g (HGO.out g hg)).mono ?_
        rintro e w2 ⟨rfl, h3⟩
        rw [hon_acc HHO.out HST.out.key hl HQN.out h1 h2]
        exact ⟨rfl, _, Lib.hid (hl.acl HQN.out g).1, (hl.acl HQN.out g).2, Lib.hid h3⟩)
      clear HGO HMH
      go_upto_block 3 with fail
      go_cut [16] (fun _ wx => ∃ L : List Sg, Hid (LOk P.2 key L) ∧ L.length ≤ 80 ∧ Hid (Has w wx ((BookT B R P.1 P.2).sep ((ViewT V R key L (vd L)).sep ((RowT 37 3 (.slice a0 M.length c0) M.length (sgC M)).sep .emp)))))
      case first =>
        go_wp2_with fail
        go_loopw [16] (fun i wr => ∃ (i' : Nat) (L : List Sg), i' ≤ os.length ∧ L.length ≤ i' ∧ i = .int .i64 i' ∧ Hid (LOk P.2 key L) ∧ Hid (Has w wr ((BookT B R P.1 P.2).sep ((ViewT V R key L (vd L)).sep ((RowT 37 3 (.slice a0 M.length c0) M.length (sgC M)).sep .emp))))) (fun i _ => os.length - (intOf i).toNat)
        case atStart => exact ⟨0, [], Nat.zero_le _, Nat.le_refl _, by go_num, Lib.hid (LOk.nil _ _), HR⟩
        case round =>
          obtain ⟨i, L, hi, hLi, rfl, HL, HI⟩ := hrel
          clear HR
          by_cases hlt2 : i < os.length
          · by_cases hm0 : 0 < M.length
            · obtain ⟨g, cp, hv, _, hcell⟩ := sg_at HI.out.right.right.row rfl hm0
              obtain ⟨rfl, rfl⟩ : a0 = some ⟨g, 0, none⟩ ∧ c0 = cp := by simpa using hv
              obtain ⟨bo, oo, co', hvo, hco⟩ := HO.out.get (by omega)
              obtain ⟨rfl, rfl⟩ : ao = some ⟨bo, oo, none⟩ ∧ co = co' := by simpa using hvo
              have co1 := HI.out.toFr.cell (hco i hlt2)
              have hix := HOA.out.2 _ (List.getElem_mem hlt2)
              generalize os[i] = x at *
              obtain ⟨j, hj, hje, hb1, hb2⟩ := order_ix x M.length hm0 hix (by omega)
              have hck := hcell j hj
              have HA1 := Lib.hid (HAC.out _ L _ HI.out HL.out (by omega) M[j] (List.getElem_mem hj))
              generalize M[j] = sg at *
              obtain ⟨sk, st, sm⟩ := sg
              have s0 := hck.c0
              have s1 := hck.c1
              have s2 := hck.c2
              unfold sgV at HA1
              simp only at s0 s1 s2 HA1
              clear hcell hck hv hvo hco
              have hw : wrap64 (x.tmod (M.length : Int) + (M.length : Int)) = x.tmod (M.length : Int) + (M.length : Int) := by unfold wrap64; omega
              go_upto_region 29 with fail
              go_cut [17] (fun kk wx => kk = .int .i64 j ∧ wx = wr)
              case first =>
                go_wp2_with fail
                go_meet
                exact ⟨rfl, rfl⟩
              case rest =>
                obtain ⟨rfl, rfl⟩ := hcut
                clear hw hje hb1 hb2 co1
                go_wp2_with (go_at_call 13; refine HA1.out.mono ?_; rintro e w20 ⟨rfl, L', hl', hn', h'⟩)
                go_roundw
                case rel => exact ⟨i + 1, L', by omega, by omega, by go_num, hl', h'⟩
                case measure => simp [intOf]; omega
            · have hm1 : ¬ (0 : Int) < (M.length : Int) := by omega
              go_wp2_with fail
              go_meet
              exact ⟨L, HL, by omega, HI⟩
          · go_wp2_with fail
            go_meet
            exact ⟨L, HL, by omega, HI⟩
      case rest =>
        obtain ⟨L0, HL0, hL0, HI0⟩ := hcut
        clear HR HO HOA
        go_wp2_with fail
        go_loopw [18] (fun i wr => ∃ (i' : Nat) (L : List Sg), i' ≤ M.length ∧ L.length ≤ 80 + i' ∧ i = .int .i64 i' ∧ Hid (LOk P.2 key L) ∧ Hid (Has w wr ((BookT B R P.1 P.2).sep ((ViewT V R key L (vd L)).sep ((RowT 37 3 (.slice a0 M.length c0) M.length (sgC M)).sep .emp))))) (fun i _ => M.length - (intOf i).toNat)
        case atStart => exact ⟨0, L0, Nat.zero_le _, by omega, by go_num, HL0, HI0⟩
        case round =>
          obtain ⟨i, L, hi, hLi, rfl, HL, HI⟩ := hrel
          clear HI0 HL0 hL0
          by_cases hlt2 : i < M.length
          · obtain ⟨g, cp, hv, _, hcell⟩ := sg_at HI.out.right.right.row rfl (by omega)
            obtain ⟨rfl, rfl⟩ : a0 = some ⟨g, 0, none⟩ ∧ c0 = cp := by simpa using hv
            have hck := hcell i hlt2
            have HA1 := Lib.hid (HAC.out _ L _ HI.out HL.out (by omega) M[i] (List.getElem_mem hlt2))
            generalize M[i] = sg at *
            obtain ⟨sk, st, sm⟩ := sg
            have s0 := hck.c0
            have s1 := hck.c1
            have s2 := hck.c2
            unfold sgV at HA1
            simp only at s0 s1 s2 HA1
            clear hcell hck hv
            go_wp2_with (go_at_call 13; refine HA1.out.mono ?_; rintro e w20 ⟨rfl, L', hl', hn', h'⟩)
            go_roundw
            case rel => exact ⟨i + 1, L', by omega, by omega, by go_num, hl', h'⟩
            case measure => simp [intOf]; omega
          · have hsz := Lib.hid (vsize HI.out.turn (by have := (HL.out.hdok HQN.out (by omega)).len; omega))
            have hle := hon_size HHO.out HST.out.key HL.out HQN.out
            have HTX := Lib.hid (fun (i : Int) (t : Txt) (h : (vd L).en i = some t) => hon_text HHO.out HST.out.key HL.out HQN.out h)
            have HAB := Lib.hid (fun (name : Txt) (m : Int) (h : (vd L).ab name = some m) => hon_absent HHO.out HST.out.key HL.out HQN.out h)
            obtain rfl : i = M.length := by omega
            clear HAC hi hlt2
            generalize szN (vd L) = n0 at *
            generalize szT (vd L) = t0 at *
            have hes := HST.out.len
            go_upto_region 38 with (go_at_call 24; refine hsz.out.mono ?_; rintro e w21 ⟨rfl, hf⟩; have H21 := Lib.hid (HI.out.fr hf); clear hf)
            clear HI hsz
            have hle' : ¬ ((P.1.es.length : Int) < n0) := by omega
            go_upto_region 40 with (go_at_call 25; refine (blen H21.out).mono ?_; rintro e w22 ⟨rfl, rfl⟩)
            go_wp2_with fail
            go_loopw [21] (fun i wr => ∃ i' : Nat, i' ≤ P.1.es.length + 2 ∧ i = .int .i64 i' ∧ Hid (Has w wr ((BookT B R P.1 P.2).sep ((ViewT V R key L (vd L)).sep ((RowT 37 3 (.slice a0 M.length c0) M.length (sgC M)).sep .emp))))) (fun i _ => P.1.es.length + 2 - (intOf i).toNat)
            case atStart => exact ⟨0, Nat.zero_le _, by go_num, H21⟩
            case round =>
              obtain ⟨i, hi, rfl, HI⟩ := hrel
              clear H21
              have HLN := Lib.hid (fun w' (h : Has w w' ((BookT B R P.1 P.2).sep ((ViewT V R key L (vd L)).sep ((RowT 37 3 (.slice a0 M.length c0) M.length (sgC M)).sep .emp)))) => blen h)
              by_cases hlt3 : i < P.1.es.length + 2
              · have HTV := Lib.hid (vtext HI.out.turn (i : Int) ⟨by omega, by omega⟩)
                have HTB := Lib.hid (btext HI.out (i : Int) (by omega))
                have HTI := Lib.hid (fun t => HTX.out (i : Int) t)
                generalize (vd L).en (i : Int) = e0 at *
                generalize txtO P.1 (i : Int) = e1 at *
                cases e0 with
                | none =>
                  cases e1 with
                  | none =>
                    unfold txtV at HTV HTB
                    go_wp2_with (first
                      | (go_at_call 27; refine HTB.out.mono ?_; rintro e w23 ⟨rfl, hf⟩)
                      | (go_at_call 26; refine HTV.out.mono ?_; rintro e w22 ⟨rfl, rfl⟩)
                      | (go_at_call 25; refine (HLN.out _ HI.out).mono ?_; rintro e w21 ⟨rfl, rfl⟩))
                    go_roundw
                    case rel => exact ⟨i + 1, by omega, by go_num, Lib.hid (HI.out.fr hf)⟩
                    case measure => simp [intOf]; omega
                  | some t =>
                    unfold txtV at HTV HTB
                    go_wp2_with (first
                      | (go_at_call 27; refine HTB.out.mono ?_; rintro e w23 ⟨rfl, hf⟩)
                      | (go_at_call 26; refine HTV.out.mono ?_; rintro e w22 ⟨rfl, rfl⟩)
                      | (go_at_call 25; refine (HLN.out _ HI.out).mono ?_; rintro e w21 ⟨rfl, rfl⟩))
                    go_roundw
                    case rel => exact ⟨i + 1, by omega, by go_num, Lib.hid (HI.out.fr hf)⟩
                    case measure => simp [intOf]; omega
                | some t =>
                  obtain rfl := HTI.out t rfl
                  unfold txtV at HTV HTB
                  go_wp2_with (first
                    | (go_at_call 27; refine HTB.out.mono ?_; rintro e w23 ⟨rfl, hf⟩)
                    | (go_at_call 26; refine HTV.out.mono ?_; rintro e w22 ⟨rfl, rfl⟩)
                    | (go_at_call 25; refine (HLN.out _ HI.out).mono ?_; rintro e w21 ⟨rfl, rfl⟩))
                  go_roundw
                  case rel => exact ⟨i + 1, by omega, by go_num, Lib.hid (HI.out.fr hf)⟩
                  case measure => simp [intOf]; omega
              · obtain rfl : i = P.1.es.length + 2 := by omega
                go_upto_region 47 with (go_at_call 25; refine (HLN.out _ HI.out).mono ?_; rintro e w21 ⟨rfl, rfl⟩)
                go_wp2_with fail
                go_loopw [26] (fun i wr => ∃ i' : Nat, i' ≤ l.length ∧ i = .int .i64 i' ∧ Hid (Has w wr ((BookT B R P.1 P.2).sep ((ViewT V R key L (vd L)).sep ((RowT 37 3 (.slice a0 M.length c0) M.length (sgC M)).sep .emp))))) (fun i _ => l.length - (intOf i).toNat)
                case atStart => exact ⟨0, Nat.zero_le _, by go_num, HI⟩
                case round =>
                  obtain ⟨j, hj, rfl, HJ⟩ := hrel
                  clear HI HLN hi hlt3
                  by_cases hlt4 : j < l.length
                  · obtain ⟨b, o, c', hv, hc⟩ := H.out.get (by omega)
                    obtain ⟨rfl, rfl⟩ : av = some ⟨b, o, none⟩ ∧ cv = c' := by simpa using hv
                    have c1 := (hc j hlt4).c1
                    have hun := (HFW.out.2 _ (List.getElem_mem hlt4)).1
                    generalize l[j].2.1 = un at *
                    have c1' := HJ.out.toFr.cell c1
                    have HC1 := Lib.hid c1
                    have HVA := Lib.hid (vabsent HJ.out.turn un (by unfold maxLen; omega))
                    have HAN := Lib.hid (fun m => HAB.out un m)
                    clear hc hv c1
                    generalize (vd L).ab un = o1 at *
                    cases o1 with
                    | none =>
                      unfold absV at HVA
                      go_upto_region 51 with (go_at_call 28; refine HVA.out.mono ?_; rintro e w24 ⟨rfl, rfl⟩)
                      go_wp2_with fail
                      go_loopw [29] (fun i wx => i = .int .i64 0 ∧ wx = w24) (fun _ _ => 0)
                      case atStart => exact ⟨rfl, rfl⟩
                      case round =>
                        obtain ⟨rfl, rfl⟩ := hrel
                        go_wp2_with fail
                        go_roundw
                        case rel => exact ⟨j + 1, by omega, by go_num, HJ⟩
                        case measure => simp [intOf]; omega
                    | some m =>
                      obtain ⟨hm1, hm2⟩ := HAN.out m rfl
                      have HM2 := Lib.hid hm2
                      clear hm2
                      unfold absV at HVA
                      go_upto_region 51 with (go_at_call 28; refine HVA.out.mono ?_; rintro e w24 ⟨rfl, rfl⟩)
                      go_wp2_with fail
                      go_loopw [29] (fun i wx => ∃ i' : Nat, i' ≤ P.1.es.length ∧ i = .int .i64 i' ∧ Hid (Has w wx ((BookT B R P.1 P.2).sep ((ViewT V R key L (vd L)).sep ((RowT 37 3 (.slice a0 M.length c0) M.length (sgC M)).sep .emp))))) (fun i _ => P.1.es.length - (intOf i).toNat)
                      case atStart => exact ⟨0, Nat.zero_le _, by go_num, HJ⟩
                      case round =>
                        obtain ⟨kk, hkk, rfl, HK6⟩ := hrel
                        clear HJ HVA c1'
                        by_cases hlt5 : (kk : Int) < m
                        · have hkl : kk < P.1.es.length := by omega
                          have hne := HM2.out kk hkl hlt5
                          obtain ⟨hky, hzl⟩ := HHO.out.ent _ (List.getElem_mem hkl)
                          have hto : txtO P.1 (kk : Int) = some P.1.es[kk] := by
                            unfold txtO
                            rw [if_pos (Int.natCast_nonneg _), Int.toNat_natCast, List.getElem?_eq_getElem hkl]
                          have HTB := Lib.hid (btext HK6.out (kk : Int) (by omega))
                          rw [hto] at HTB
                          have hkz := key_of hky
                          generalize P.1.es[kk] = z at *
                          have HKZ := Lib.hid (fun w' => key_any z w' (by omega))
                          rw [hkz] at HKZ
                          unfold keyV at HKZ
                          unfold txtV at HTB
                          generalize keyT z = kz at *
                          have hne1 : (kz == un) = false := by simpa using hne
                          have c1' := HK6.out.toFr.cell HC1.out
                          clear hto hky hkz
                          go_wp2_with (first
                            | (go_at_call 29; refine (HKZ.out _).mono ?_; rintro e w26 ⟨rfl, hf26⟩; have HK7 := Lib.hid (HK6.out.fr (hf25.trans hf26)); have c1'' := HK7.out.toFr.cell HC1.out)
                            | (go_at_call 27; refine HTB.out.mono ?_; rintro e w25 ⟨rfl, hf25⟩))
                          go_roundw
                          case rel => exact ⟨kk + 1, by omega, by go_num, HK7⟩
                          case measure => simp [intOf]; omega
                        · go_wp2_with fail
                          go_roundw
                          case rel => exact ⟨j + 1, by omega, by go_num, HK6⟩
                          case measure => simp [intOf]; omega
                  · go_wp2_with fail
                    go_ret
                    exact ⟨rfl, HJ.out.toFr⟩
theorem book_any (v vo : Value) (l : List Tu) (os : List Int) (key : Int) (w : World) (ht : Tab w) (h : TuSl w v l) (ha : TArg l) (ho : ISl w vo os) (hoa : IArg os) :
    Calls Tryd.prog 4 #[.int .i64 key, v, vo] w fun e w' => e = .returned (.bool true) ∧ Fr w w' := by
  by_cases hf : FewT l ∧ os.length ≤ 80
  · by_cases hk : IsKey key
    · exact book_yes v vo l os key w ht h ha ho hoa hf.1 hf.2 hk
    · exact book_nokey v vo l os key w h ha ho hf.1 hf.2 hk
  · exact book_not v vo l os key w h ha ho hoa hf
end Go.Proofs.YtapdabebiinnnaaDoor
