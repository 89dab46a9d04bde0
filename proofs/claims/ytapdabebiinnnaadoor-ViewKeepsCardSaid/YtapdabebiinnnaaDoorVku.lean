/-
  ViewKeeps: the walk.
-/
import Derived.Test.YtapdabebiinnnaaDoorVr
import Derived.Test.YtapdabebiinnnaaDoorBld
namespace Go.Proofs.YtapdabebiinnnaaDoor
open Go.RowKit Go.MapKept Go.Maps Go.WideMaps

/-- Every block but b is as it was, if it holds no bytes. -/
def Kp (b : Nat) (w w' : World) : Prop := ∀ (K : Nat) (cs : Array Value) (T : TypeId) (fr : Nat × Nat), K ≠ b → w.heap[K]? = some (.cells cs T fr) → T ≠ 5 → w'.heap[K]? = some (.cells cs T fr)
theorem Kp.refl (b : Nat) (w : World) : Kp b w w := fun _ _ _ _ _ h _ => h
theorem Kp.set {b : Nat} {w w' : World} (h : Kp b w w') (i : Nat) (v : Value) : Kp b w (w'.setCell ⟨b, i, none⟩ v) := fun K cs T fr hK h1 hT => (heap_setCell_other w' ⟨b, i, none⟩ K v hK).trans (h K cs T fr hK h1 hT)
theorem copyCheckK (B b : Nat) (bs : List Value) (w : World) (h : Lib.IsBuilder 91 5 B b bs w) :
    Calls Tryd.prog 65 #[.pointer (some ⟨b, 0, none⟩)] w fun e w' => e = .returned (.tuple #[]) ∧ Lib.BuilderAt 91 5 B b (.pointer (some ⟨b, 0, none⟩)) bs w' ∧ Below B w w' ∧ Kp b w w' := by
  rcases h with h | h
  · refine (copyCheck_fresh b w h.cell0 h.shape h.frozen0).mono ?_
    rintro e w' ⟨rfl, rfl⟩
    exact ⟨rfl, h.used _, (Below.refl B w).setCell (p := ⟨b, 0, none⟩) h.1 _, (Kp.refl b w).set 0 _⟩
  · refine (copyCheck_used b w h.cell0).mono ?_
    rintro e w' ⟨rfl, rfl⟩
    exact ⟨rfl, h, Below.refl B _, Kp.refl b _⟩
set_option maxHeartbeats 2000000 in
set_option maxRecDepth 100000 in
theorem writeStringK (B b : Nat) (bs : List Value) (s : ByteArray) (w : World) (h : Lib.IsBuilder 91 5 B b bs w) (hlen : bs.length + s.size ≤ 140737488355328) (hBw : B ≤ w.heap.size) :
    Calls Tryd.prog 42 #[.pointer (some ⟨b, 0, none⟩), .string s] w fun e w' => e = .returned (.tuple #[.int .i64 s.size, .nilIface]) ∧ Lib.BuilderAt 91 5 B b (.pointer (some ⟨b, 0, none⟩)) (bs ++ Lib.strCells s) w' ∧ Below B w w' ∧ Kp b w w' := by
  obtain ⟨i0, hi, hz0, hz1, hz2⟩ := info_parts infoByte
  go_enter Tryd.func42, Tryd.ntmps42
  go_wp2_with (go_at_call 65; refine (copyCheckK B b bs _ h).mono ?_)
  rintro e w1 ⟨rfl, h1, hb1, hk1⟩
  obtain ⟨hB, v, hbk, hown, hne⟩ := h1
  have c0 : w1.cell? ⟨b, 0, none⟩ = some (.pointer (some ⟨b, 0, none⟩)) := by rw [Lib.cell_of_heap hbk]; rfl
  have c1 : w1.cell? ⟨b, 1, none⟩ = some v := by rw [Lib.cell_of_heap hbk]; rfl
  have HK1 := Lib.hid hk1
  clear hk1
  go_wp2_with (at_builtin; refine Lib.wpList_append_own_string _ rfl _ _ 89 9 rfl B 5 i0 Tryd.underlying89 Tryd.underlying9 hi hz0 hz1 hz2 _ _ _ rfl hown s rfl ?c3 ?c4 ?c5 ?_)
  case c3 => unfold maxLen; omega
  case c4 => omega
  case c5 => have := hb1.size; omega
  intro v' w2 hown' hgrow _
  have hlt : b < w1.heap.size := by
    rcases Nat.lt_or_ge b w1.heap.size with h' | h'
    · exact h'
    · simp [Array.getElem?_eq_none h'] at hbk
  have hb2 : w2.heap[b]? = some (.cells #[.pointer (some ⟨b, 0, none⟩), v] 91 (0, 0)) := by
    rw [hgrow.block b hlt (fun e => hne e.symm)]
    exact hbk
  have HK2 := Lib.hid (show Kp b w w2 from fun K cs T fr hK h1 hT => by
    have h2 := HK1.out K cs T fr hK h1 hT
    have hl : K < w1.heap.size := by
      rcases Nat.lt_or_ge K w1.heap.size with h' | h'
      · exact h'
      · simp [Array.getElem?_eq_none h'] at h2
    rw [hgrow.block K hl (fun e => Lib.ownBlock_ne hown h2 hT e.symm)]
    exact h2)
  have d0 : w2.cell? ⟨b, 0, none⟩ = some (.pointer (some ⟨b, 0, none⟩)) := by rw [Lib.cell_of_heap hb2]; rfl
  have d1 : w2.cell? ⟨b, 1, none⟩ = some v := by rw [Lib.cell_of_heap hb2]; rfl
  have f1 : w2.frozen? ⟨b, 1, none⟩ = false := Lib.frozen_of_heap hb2 1
  obtain ⟨ao, n', cap, rfl⟩ : ∃ ao n' cap, v' = .slice ao n' cap := by
    rcases hown'.2 with ⟨hv, _⟩ | ⟨g, cap, cur, hv, _⟩
    · exact ⟨_, _, _, hv⟩
    · exact ⟨_, _, _, hv⟩
  go_wp2
  go_ret2
  refine ⟨rfl, ?_, ?_, HK2.out.set 1 _⟩
  · exact Lib.BuilderAt.put (T := 91) (e := 5) hB hb2 (bs' := bs ++ Lib.strCells s) (by simpa [Lib.strCells_length] using hown') (by decide)
  · exact (hb1.grown hgrow (by have := hb1.size; omega) (fun k hk => (hown.lt k hk).1)).setCell (p := ⟨b, 1, none⟩) hB _

/-- The builder in block B, which the call has made itself, holds the bytes l. -/
def Bd (B : Nat) (l : List UInt8) (w : World) : Prop := Lib.IsBuilder 91 5 B B (Lib.byteCells l) w
theorem Bd.fresh (w : World) : Bd w.heap.size [] (w.alloc (.cells #[.pointer none, .slice none 0 0] 91)) := Lib.fresh_isBuilder _ _ w
theorem builderAt_fr {T e : TypeId} {B b : Nat} {p : Value} {bs : List Value} {w w' : World} (h : Lib.BuilderAt T e B b p bs w) (hf : Fr w w') : Lib.BuilderAt T e B b p bs w' := by
  obtain ⟨hB, v, hb, hown, hne⟩ := h
  exact ⟨hB, v, hf.heap hb, hown.kept hf (by cases v.ownBlock <;> simp), hne⟩
theorem Bd.fr {B : Nat} {l : List UInt8} {w w' : World} (h : Bd B l w) (hf : Fr w w') : Bd B l w' := by
  rcases h with h | h
  · exact .inl (builderAt_fr h hf)
  · exact .inr (builderAt_fr h hf)
theorem Bd.lt {B : Nat} {l : List UInt8} {w : World} (h : Bd B l w) : B < w.heap.size := by
  rcases h with h | h <;> exact h.lt
theorem bd_str {B : Nat} {l : List UInt8} (s : List UInt8) {w : World} (h : Bd B l w) (hl : l.length + s.length < 140737488355328) :
    Calls Tryd.prog 42 #[.pointer (some ⟨B, 0, none⟩), .string (S s)] w fun e w' => e = .returned (.tuple #[.int .i64 s.length, .nilIface]) ∧ Bd B (l ++ s) w' ∧ Below B w w' ∧ Kp B w w' := by
  refine (writeStringK B B _ _ w h (by rw [Lib.byteCells_length]; show l.length + s.length ≤ _; omega) (Nat.le_of_lt h.lt)).mono ?_
  rintro e w' ⟨rfl, h1, h2, h3⟩
  exact ⟨rfl, .inr (by rw [Lib.byteCells_append]; exact h1), h2, h3⟩
theorem bd_string {B : Nat} {l : List UInt8} {w : World} (h : Bd B l w) :
    Calls Tryd.prog 44 #[.pointer (some ⟨B, 0, none⟩)] w fun e w' => e = .returned (.string (S l)) ∧ Below B w w' :=
  Tryd.Builder_String_any B B l w h (Nat.le_of_lt h.lt)
/-- A builder that a call has made since the world w. -/
def BdF (w : World) (l : List UInt8) (w' : World) : Prop := Bd w.heap.size l w' ∧ Fr w w'
theorem BdF.fr {w w1 w2 : World} {l : List UInt8} (h : BdF w l w1) (hf : Fr w1 w2) : BdF w l w2 := ⟨h.1.fr hf, h.2.trans hf⟩
theorem BdF.str {w w1 : World} {l : List UInt8} (h : BdF w l w1) (s : List UInt8) (hl : l.length + s.length < 140737488355328) :
    Calls Tryd.prog 42 #[.pointer (some ⟨w.heap.size, 0, none⟩), .string (S s)] w1 fun e w' => e = .returned (.tuple #[.int .i64 s.length, .nilIface]) ∧ BdF w (l ++ s) w' ∧ Kp w.heap.size w1 w' := by
  refine (bd_str s h.1 hl).mono ?_
  rintro e w' ⟨rfl, h1, h2, h3⟩
  exact ⟨rfl, ⟨h1, Fr.of_below (h.2.below.trans h2)⟩, h3⟩
theorem BdF.string {w w1 : World} {l : List UInt8} (h : BdF w l w1) : Calls Tryd.prog 44 #[.pointer (some ⟨w.heap.size, 0, none⟩)] w1 fun e w' => e = .returned (.string (S l)) ∧ Fr w w' := by
  refine (bd_string h.1).mono ?_
  rintro e w' ⟨rfl, h2⟩
  exact ⟨rfl, Fr.of_below (h.2.below.trans h2)⟩

/-- The bytes of a view. -/
def sgE (s : Sg) : Txt := (Wm.numE 59).f s.2.2 ++ Wm.textE.f s.2.1
def byT (k : Int) (l : List Sg) : Txt := (Wm.numE 59).f k ++ (Wm.numE 59).f (l.length : Int) ++ l.flatMap sgE
theorem num_len (n : Int) (h0 : 0 ≤ n) (h1 : n ≤ 9223372036854775807) : ((Wm.numE 59).f n).length ≤ 40 := by
  have := Lib.itoa_length_le n (by omega) h1
  rw [Wm.numE_f]; simp; omega
theorem text_lenE (t : Txt) (h : t.length ≤ 20100) : (Wm.textE.f t).length ≤ 20200 := by
  have := Lib.itoa_length_le t.length (by omega) (by omega)
  rw [Wm.textE_f]; simp; omega
theorem flat_takeS (l : List Sg) (k : Nat) (h : k < l.length) : (l.take (k + 1)).flatMap sgE = (l.take k).flatMap sgE ++ ((Wm.numE 59).f l[k].2.2 ++ Wm.textE.f l[k].2.1) := by
  rw [List.take_add_one, List.getElem?_eq_getElem h, List.flatMap_append]; simp [sgE]
/-- Fit to be written. -/
def WOk (l : List Sg) : Prop := ∀ s ∈ l, (0 ≤ s.2.2 ∧ s.2.2 ≤ 9223372036854775807) ∧ s.2.1.length ≤ 20100
theorem sgE_len {s : Sg} (h : (0 ≤ s.2.2 ∧ s.2.2 ≤ 9223372036854775807) ∧ s.2.1.length ≤ 20100) : (sgE s).length ≤ 20240 := by
  have h1 := num_len _ h.1.1 h.1.2
  have h2 := text_lenE _ h.2
  unfold sgE
  rw [List.length_append]; omega
theorem flat_sg {l : List Sg} (h : WOk l) : (l.flatMap sgE).length ≤ l.length * 20240 := by
  induction l with
  | nil => simp
  | cons s l ih =>
    have h1 := sgE_len (h s (by simp))
    have h2 := ih (fun x hx => h x (by simp [hx]))
    rw [List.flatMap_cons, List.length_append, List.length_cons]; omega
theorem WOk.take {l : List Sg} (h : WOk l) (k : Nat) : WOk (l.take k) := fun s hs => h s (List.mem_of_mem_take hs)
theorem LOk.wok {q : List Sd} {k : Int} {l : List Sg} (h : LOk q k l) (hq : q.length ≤ 1000000) : WOk l := fun s hs => by
  obtain ⟨h1, h2⟩ := holds_get (h.val s hs)
  have h3 := (List.getElem?_eq_some_iff.1 h2).1
  have h4 := readC_some.1 (h.log s hs).1
  have h5 := textC_len h4.1
  rw [← h4.2] at h5
  refine ⟨⟨h1, by omega⟩, h5⟩
section
variable {W w : World} {B R : Nat} {k : Int} {l : List Sg} {d : VD} {U : Thing}
set_option maxHeartbeats 1000000 in
set_option maxRecDepth 100000 in
theorem vbytes (h : Has W w ((ViewT B R k l d).sep U)) (hk : IsKey k) (hn : l.length ≤ 100000) (hw : WOk l) (ht : Tab w) :
    Calls Tryd.prog 12 #[.pointer (some ⟨B, 0, none⟩)] w fun e w' => e = .returned (.string (S (byT k l))) ∧ Fr w w' := by
  have HB0 := Lib.hid (show BdF w [] (w.alloc (.cells #[.pointer none, .slice none 0 0] 91)) from ⟨Bd.fresh w, Fr.alloc _ _⟩)
  obtain ⟨p, hp⟩ := h.vopen
  have HG := Lib.hid (GSl.own hp.row rfl)
  obtain ⟨a, c, hav⟩ : ∃ a c, p.av = .slice a l.length c := row_form hp.row
  have c1 := hp.cell 1 (.int .i64 k) rfl
  have c2 := hp.cell 2 p.av rfl
  rw [hav] at c2 HG
  have HCS : Hid (∀ w', Fr w w' → w'.cell? ⟨B, 1, none⟩ = some (.int .i64 k) ∧ w'.cell? ⟨B, 2, none⟩ = some (.slice a l.length c)) := Lib.hid fun w' hf => ⟨hf.cell c1, hf.cell c2⟩
  have hk1 := hk.1
  have hk2 := hk.2
  have HN1 := Lib.hid (fun w' (hf : Fr w w') => num_any k w' hk1 (by omega) (ht.fr hf))
  have HN2 := Lib.hid (fun w' (hf : Fr w w') => num_any (l.length : Int) w' (by omega) (by omega) (ht.fr hf))
  have HL1 := Lib.hid (show ((Wm.numE 59).f k).length ≤ 40 from num_len k hk1 (by omega))
  have HL2 := Lib.hid (show ((Wm.numE 59).f (l.length : Int)).length ≤ 40 from num_len _ (by omega) (by omega))
  have HBY := Lib.hid (show byT k l = (Wm.numE 59).f k ++ (Wm.numE 59).f (l.length : Int) ++ l.flatMap sgE from rfl)
  have HW := Lib.hid hw
  have HT := Lib.hid ht
  generalize byT k l = z at *
  generalize (Wm.numE 59).f k = n1 at *
  generalize (Wm.numE 59).f (l.length : Int) = n2 at *
  have a1 : ∀ w', (Op.stringOp .add (S n1) (S n2)).run Tryd.prog w' = .ok (.string (S (n1 ++ n2))) w' := fun w' => run_concat w' _ _ (by have := HL1.out; have := HL2.out; omega)
  clear hp h hw ht hk
  go_enter Tryd.func12, Tryd.ntmps12
  go_upto_region 2 with fail
  obtain ⟨T, hTe⟩ : ∃ T, T = w.heap.size := ⟨_, rfl⟩
  generalize hw1 : w.alloc (.cells #[.pointer none, .slice none 0 0] 91) = w1 at *
  clear hw1
  have HD := Lib.hid (HCS.out _ (HB0.out.2.trans (Fr.drew w1)))
  have HB1 := Lib.hid (HB0.out.fr (Fr.drew w1))
  go_region_held_law (fun w' => w'.cell? ⟨B, 1, none⟩ = some (.int .i64 k) ∧ w'.cell? ⟨B, 2, none⟩ = some (.slice a l.length c))
    (first | exact HCS.out _ HB4.out.2 | exact HCS.out _ HB3.out.2 | exact HCS.out _ HB2.out.2 | exact HD.out)
    (first
      | (go_at_call 42; refine (HB3.out.str (n1 ++ n2) (by have := HL1.out; have := HL2.out; simp; omega)).mono ?_; rintro e w4 ⟨rfl, hb, _⟩; have HB4 := Lib.hid hb; clear hb)
      | (go_at_call 43; first
          | (refine (HN2.out _ HB2.out.2).mono ?_; rintro e w3 ⟨rfl, hf⟩; have HB3 := Lib.hid (HB2.out.fr hf); clear hf)
          | (refine (HN1.out _ HB1.out.2).mono ?_; rintro e w2 ⟨rfl, hf⟩; have HB2 := Lib.hid (HB1.out.fr hf); clear hf)))
  clear HB0 HB1 HB2 HB3 HD HN1 HN2
  have HB5 := Lib.hid (show BdF w (n1 ++ n2 ++ (l.take 0).flatMap sgE) w4 from by simpa using HB4.out)
  obtain ⟨c1, c2⟩ := HCS.out _ HB4.out.2
  clear HB4
  go_wp2_with fail
  go_loopw [24] (fun i wr => ∃ j : Nat, j ≤ l.length ∧ i = .int .i64 j ∧ Hid (BdF w (n1 ++ n2 ++ (l.take j).flatMap sgE) wr)) (fun i _ => l.length - (intOf i).toNat)
  case atStart => exact ⟨0, Nat.zero_le _, by go_num, HB5⟩
  case round =>
    obtain ⟨j, hj, rfl, HJ⟩ := hrel
    clear HB5 c1 c2
    by_cases hlt : j < l.length
    · rcases HG.out with ⟨h0, _⟩ | ⟨g, o, c', hv, hcell⟩
      · rw [h0] at hlt; exact absurd hlt (by simp)
      obtain ⟨rfl, rfl⟩ : a = some ⟨g, o, none⟩ ∧ c = c' := by simpa using hv
      have hcj := (hcell j hlt).fr HJ.out.2
      have s0 := hcj.c0
      have s1 := hcj.c1
      have s2 := hcj.c2
      have hwj := HW.out _ (List.getElem_mem hlt)
      have HFT := Lib.hid (flat_takeS l j hlt)
      have hfl : ((l.take j).flatMap sgE).length ≤ 100000 * 20240 := by
        have h1 := flat_sg (HW.out.take j)
        have h2 : (l.take j).length ≤ 100000 := by rw [List.length_take]; omega
        calc _ ≤ (l.take j).length * 20240 := h1
          _ ≤ 100000 * 20240 := Nat.mul_le_mul_right _ h2
      have HFL := Lib.hid hfl
      generalize l[j] = y at *
      obtain ⟨yk, yt, ym⟩ := y
      simp only at s0 s1 s2 hwj HFT
      have hm1 := hwj.1.1
      have hm2 := hwj.1.2
      have HN3 := Lib.hid (fun w' (hf : Fr w w') => num_any ym w' hm1 hm2 (HT.out.fr hf))
      have HN4 := Lib.hid (fun w' (hf : Fr w w') => text_any yt w' (by have := hwj.2; omega) (HT.out.fr hf))
      have HL3 := Lib.hid (num_len ym hm1 hm2)
      have HL4 := Lib.hid (text_lenE yt hwj.2)
      generalize (Wm.numE 59).f ym = m1 at *
      generalize Wm.textE.f yt = m2 at *
      have a2 : ∀ w', (Op.stringOp .add (S m1) (S m2)).run Tryd.prog w' = .ok (.string (S (m1 ++ m2))) w' := fun w' => run_concat w' _ _ (by have := HL3.out; have := HL4.out; omega)
      clear hcj hcell hv hwj hm1 hm2 hfl
      go_upto_region 6 with fail
      have HJ1 := Lib.hid ((HJ.out.fr (Fr.alloc wr (.cells #[.int .i64 yk, .string (S yt), .int .i64 ym] 37))).fr (Fr.drew _))
      have hYne : wr.heap.size ≠ w.heap.size := by have := HJ.out.1.lt; omega
      have HY : Hid (∀ w' : World, w'.heap[wr.heap.size]? = some (.cells #[.int .i64 yk, .string (S yt), .int .i64 ym] 37 (0, 0)) → w'.cell? ⟨wr.heap.size, 1, none⟩ = some (.string (S yt)) ∧ w'.cell? ⟨wr.heap.size, 2, none⟩ = some (.int .i64 ym)) := Lib.hid fun w' hf => ⟨cellOf hf rfl, cellOf hf rfl⟩
      have HA0 : Hid ((wr.alloc (.cells #[.int .i64 yk, .string (S yt), .int .i64 ym] 37)).drew.heap[wr.heap.size]? = some (.cells #[.int .i64 yk, .string (S yt), .int .i64 ym] 37 (0, 0))) := Lib.hid ((Fr.drew _).heap (heap_alloc_new wr _))
      have HYD := Lib.hid (HY.out _ HA0.out)
      go_region_held_law (fun w' => w'.cell? ⟨wr.heap.size, 1, none⟩ = some (.string (S yt)) ∧ w'.cell? ⟨wr.heap.size, 2, none⟩ = some (.int .i64 ym))
        (first | exact HY.out _ HA3.out | exact HY.out _ HA2.out | exact HY.out _ HA1.out | exact HYD.out)
        (first
          | (go_at_call 42; refine (HJ3.out.str (m1 ++ m2) (by have := HL1.out; have := HL2.out; have := HL3.out; have := HL4.out; have := HFL.out; simp only [List.length_append]; omega)).mono ?_; rintro e w7 ⟨rfl, hb, hk⟩; have HJ4 := Lib.hid hb; have HA3 := Lib.hid (hk _ _ _ _ hYne HA2.out (by decide)); clear hb hk)
          | (go_at_call 20; refine (HN4.out _ HJ2.out.2).mono ?_; rintro e w6 ⟨rfl, hf⟩; have HJ3 := Lib.hid (HJ2.out.fr hf); have HA2 := Lib.hid (hf.heap HA1.out); clear hf)
          | (go_at_call 43; refine (HN3.out _ HJ1.out.2).mono ?_; rintro e w5 ⟨rfl, hf⟩; have HJ2 := Lib.hid (HJ1.out.fr hf); have HA1 := Lib.hid (hf.heap HA0.out); clear hf))
      all_goals
        go_wp2_with fail
        go_roundw
        case rel => exact ⟨j + 1, by omega, by go_num, Lib.hid (by rw [HFT.out, ← List.append_assoc]; exact HJ4.out)⟩
        case measure => simp [intOf]; omega
    · have he : j = l.length := by omega
      subst he
      rw [List.take_length, ← HBY.out] at HJ
      go_wp2_with (go_at_call 44; refine HJ.out.string.mono ?_; rintro e wz ⟨rfl, hf⟩)
      go_ret
      exact ⟨rfl, hf⟩
end
end Go.Proofs.YtapdabebiinnnaaDoor
namespace Go.Proofs.YtapdabebiinnnaaDoor
open Go.RowKit Go.MapKept Go.Maps Go.WideMaps

/-- What has been accepted of the first n of a list. -/
noncomputable def lv (q : List Sd) (k : Int) (ss : List Sg) (n : Nat) : List Sg := (ss.take n).foldl (acl q k) []
theorem lv_zero (q : List Sd) (k : Int) (ss : List Sg) : lv q k ss 0 = [] := rfl
theorem lv_succ (q : List Sd) (k : Int) {ss : List Sg} {n : Nat} (h : n < ss.length) : lv q k ss (n + 1) = acl q k (lv q k ss n) ss[n] := by
  unfold lv
  rw [List.take_succ_eq_append_getElem h, List.foldl_append]; rfl
theorem lv_ok {q : List Sd} (k : Int) (hq : q.Nodup) (ss : List Sg) : ∀ n, n ≤ ss.length → LOk q k (lv q k ss n) ∧ (lv q k ss n).length ≤ n := by
  intro n
  induction n with
  | zero => intro _; exact ⟨LOk.nil _ _, Nat.le_refl _⟩
  | succ n ih =>
    intro h
    obtain ⟨h1, h2⟩ := ih (by omega)
    rw [lv_succ q k (by omega)]
    have := h1.acl hq ss[n]
    exact ⟨this.1, by omega⟩
theorem sl_bounds {l : List Sy} (hf : FewY l) : ∀ s ∈ sl l, (0 ≤ s.1 ∧ s.1 ≤ 1000000001) ∧ s.2.1.length ≤ 1000000001 ∧ (0 ≤ s.2.2 ∧ s.2.2 ≤ 1000000001) := by
  intro s hs
  unfold sl at hs
  obtain ⟨x, hx, rfl⟩ := List.mem_map.1 hs
  have hw := wo_len (hf.2 x hx).1
  have hb : (0 ≤ (zz (l.map sdOf) (sdOf x)).1 ∧ (zz (l.map sdOf) (sdOf x)).1 ≤ 1000000000) ∧ (zz (l.map sdOf) (sdOf x)).2.1.length ≤ 1000000000 ∧ (0 ≤ (zz (l.map sdOf) (sdOf x)).2.2 ∧ (zz (l.map sdOf) (sdOf x)).2.2 ≤ 1000000000) := by
    unfold zz
    split
    · rename_i h
      have h1 := h.1
      have h2 := h.2
      have h3 := px_le (l.map sdOf) (sdOf x)
      rw [List.length_map] at h3
      have h4 := hf.1
      unfold sgOf
      simp only
      refine ⟨⟨h1, by omega⟩, ?_, by omega, by omega⟩
      show (wo x).length ≤ _
      omega
    · simp
  generalize zz (l.map sdOf) (sdOf x) = z at *
  obtain ⟨a, t, m⟩ := z
  simp only at hb
  unfold tn
  repeat' split
  all_goals simp only [List.length_append, List.length_cons, List.length_nil]; omega
theorem sl_gok {l : List Sy} (hf : FewY l) {s : Sg} (hs : s ∈ sl l) : GOk s := by
  have := sl_bounds hf s hs
  refine ⟨⟨by omega, by omega⟩, by omega, ⟨by omega, by omega⟩⟩
theorem sl_len (l : List Sy) : (sl l).length = l.length := by unfold sl; rw [List.length_map]
theorem qs_nd (l : List Sy) : (qs l).Nodup := SL_nodup _
theorem qs_len (l : List Sy) : (qs l).length ≤ l.length := by have := SL_len (l.map sdOf); rw [List.length_map] at this; exact this

def rdF' (o : Option C) : Int := if o.isSome then 0 else 2
theorem rdF'_some (c : C) : rdF' (some c) = 0 := rfl
theorem readV_eq (o : Option C) : readV o = .tuple #[.agg #[.int .i64 (o.getD zeroC).k, .int .i64 (o.getD zeroC).n, .int .i64 (o.getD zeroC).t, .string (S (o.getD zeroC).s)], .int .i64 (rdF' o)] := by
  cases o <;> rfl
theorem clV_eq (o : Option Sg) : clV o = .tuple #[.agg #[.int .i64 (o.getD (0, [], 0)).1, .string (S (o.getD (0, [], 0)).2.1), .int .i64 (o.getD (0, [], 0)).2.2], .bool o.isSome] := by
  cases o <;> rfl
/-- A claim of a log, signed by the key. -/
noncomputable def mnB (q : List Sd) (k : Int) (s : Sg) : Bool := holds q s && decide (s.1 = k) && (match readC s.2.1 with | none => false | some c => decide (c.k ≤ 2))
section
variable {q : List Sd} {k : Int} {l : List Sg} {s : Sg}
theorem clR_some {x : Sg} (h : clR l s = some x) : x ∈ l ∧ ∃ c, readC s.2.1 = some c ∧ contra (clm x.2.1) c = true := by
  unfold clR at h
  cases hr : readC s.2.1 with
  | none => rw [hr] at h; exact absurd h (by simp)
  | some c =>
    rw [hr] at h
    simp only at h
    unfold clO at h
    exact ⟨List.mem_of_find?_eq_some h, c, rfl, by simpa using List.find?_some h⟩
theorem mn_yes (h : LOk q k l) (hq : q.Nodup) (hm : mnB q k s = true) : (aE q k l s = 0 ∧ clR l s = none) ∨ (aE q k l s = 21 ∧ acl q k l s = l ∧ ∃ x, clR l s = some x) := by
  unfold mnB at hm
  simp only [Bool.and_eq_true, decide_eq_true_eq] at hm
  obtain ⟨⟨h1, h2⟩, h3⟩ := hm
  cases hr : readC s.2.1 with
  | none => rw [hr] at h3; exact absurd h3 (by simp)
  | some c =>
    rw [hr] at h3
    have h4 : c.k ≤ 2 := by simpa using h3
    have hcl := readC_clm hr
    cases hb : (l.any fun a => contra (clm a.2.1) c) with
    | false =>
      refine .inl ⟨(aE_zero h hq s).2 ⟨h1, h2, ⟨c, hr, h4⟩, fun a ha => ?_⟩, ?_⟩
      · rw [hcl]
        rw [List.any_eq_false] at hb
        simpa using hb a ha
      · unfold clR; rw [hr]; exact clO_none hb
    | true =>
      have he := aE_split h hq h1 h2 hr h4 hb
      refine .inr ⟨he, acl_bad h hq (fun hg => ?_), ?_⟩
      · rw [(aE_zero h hq s).2 hg] at he; exact absurd he (by decide)
      · unfold clR; rw [hr]
        cases ho : clO l c with
        | some x => exact ⟨x, ho⟩
        | none =>
          unfold clO at ho
          rw [List.find?_eq_none] at ho
          obtain ⟨a, ha, hc⟩ := List.any_eq_true.1 hb
          exact absurd hc (ho a ha)
theorem mn_no (h : LOk q k l) (hq : q.Nodup) (hm : mnB q k s = false) : aE q k l s ≠ 0 ∧ aE q k l s ≠ 21 ∧ acl q k l s = l := by
  have hg : ¬ Good q k l s := fun ⟨h1, h2, ⟨c, h3, h4⟩, _⟩ => by
    unfold mnB at hm
    rw [h1, decide_eq_true h2, h3] at hm
    simp only [Bool.true_and, decide_eq_false_iff_not] at hm
    exact hm h4
  refine ⟨fun e => hg ((aE_zero h hq s).1 e), ?_, acl_bad h hq hg⟩
  unfold mnB at hm
  unfold aE accE
  cases hh : holds q s with
  | false => simp
  | true =>
    rw [hh] at hm
    by_cases hk : s.1 = k
    · cases hr : readC s.2.1 with
      | none => simp [hk]
      | some c =>
        rw [hr, decide_eq_true hk] at hm
        have h4 : ¬ c.k ≤ 2 := by simpa using hm
        simp [hk, h4]
    · simp [hk]
end
end Go.Proofs.YtapdabebiinnnaaDoor
namespace Go.Proofs.YtapdabebiinnnaaDoor
open Go.RowKit Go.MapKept Go.Maps Go.WideMaps

set_option maxHeartbeats 1000000 in
set_option maxRecDepth 100000 in
theorem keeps_not (v : Value) (l : List Sy) (key : Int) (w : World) (h : SySl w v l) (ha : SArg l) (hf : ¬ FewY l) :
    Calls Tryd.prog 3 #[v, .int .i64 key] w fun e w' => e = .returned (.bool true) ∧ Fr w w' := by
  have H := Lib.hid h
  have HA := Lib.hid ha
  have HF := Lib.hid (show decide (FewY l) = false from decide_eq_false hf)
  clear h ha hf
  go_enter Tryd.func3, Tryd.ntmps3
  go_wp2_with (first
    | (go_at_call 7; refine (few_any _ (H.out.fr h2.toFr) HA.out).mono ?_; rw [HF.out]; rintro e w3 ⟨rfl, rfl⟩)
    | (go_at_call 6; refine (((Has.here w).fr hf1).ring).mono ?_; rintro e w2 ⟨B, rfl, h2⟩)
    | (go_at_call 5; refine (small_any _).mono ?_; rintro e w1 ⟨rfl, hf1⟩))
  go_ret
  exact ⟨rfl, h2.toFr⟩
set_option maxHeartbeats 1000000 in
set_option maxRecDepth 100000 in
theorem keeps_nokey (v : Value) (l : List Sy) (key : Int) (w : World) (h : SySl w v l) (ha : SArg l) (hf : FewY l) (hk : ¬ IsKey key) :
    Calls Tryd.prog 3 #[v, .int .i64 key] w fun e w' => e = .returned (.bool true) ∧ Fr w w' := by
  have H := Lib.hid h
  have HA := Lib.hid ha
  have HFW := Lib.hid hf
  have HF := Lib.hid (show decide (FewY l) = true from decide_eq_true hf)
  have HK := Lib.hid hk
  have hb : key < 0 ∨ 200 ≤ key := by
    rcases Int.lt_or_le key 0 with h | h
    · exact .inl h
    · exact .inr (Int.not_lt.1 fun h' => hk ⟨h, h'⟩)
  clear h ha hf hk
  go_enter Tryd.func3, Tryd.ntmps3
  go_upto_region 8 with (first
    | (go_at_call 9; refine (vnew_no _ key _ (.inr HK.out)).mono ?_; rintro e w5 ⟨rfl, hf5⟩)
    | (go_at_call 8; refine (signed_any _ l h2 (H.out) HA.out HFW.out).mono ?_; rintro e w4 ⟨a4, c4, rfl, h4⟩)
    | (go_at_call 7; refine (few_any _ (H.out.fr h2.toFr) HA.out).mono ?_; rw [HF.out]; rintro e w3 ⟨rfl, rfl⟩)
    | (go_at_call 6; refine (((Has.here w).fr hf1).ring).mono ?_; rintro e w2 ⟨B, rfl, h2⟩)
    | (go_at_call 5; refine (small_any _).mono ?_; rintro e w1 ⟨rfl, hf1⟩))
  have HFX := Lib.hid (h4.toFr.trans hf5)
  clear h4 hf5 h2 hf1
  rcases hb with hb | hb
  · go_wp2_with fail
    go_ret
    exact ⟨rfl, HFX.out⟩
  · have hb0 : ¬ key < 0 := by omega
    go_wp2_with fail
    go_ret
    exact ⟨rfl, HFX.out⟩
set_option maxHeartbeats 1000000 in
set_option maxRecDepth 100000 in
theorem keeps_yes (v : Value) (l : List Sy) (key : Int) (w : World) (h : SySl w v l) (ha : SArg l) (hf : FewY l) (hk : IsKey key) (ht : Tab w) :
    Calls Tryd.prog 3 #[v, .int .i64 key] w fun e w' => e = .returned (.bool true) ∧ Fr w w' := by
  have H := Lib.hid h
  have HA := Lib.hid ha
  have HFW := Lib.hid hf
  have HF := Lib.hid (show decide (FewY l) = true from decide_eq_true hf)
  have HK := Lib.hid hk
  have HT := Lib.hid ht
  have hn := hf.1
  rw [← sl_len] at hn
  have HGO := Lib.hid (fun s hs => sl_gok hf (s := s) hs)
  have HSB := Lib.hid (sl_bounds hf)
  have HQN := Lib.hid (qs_nd l)
  have HQL := Lib.hid (show (qs l).length ≤ 1000000 from by have := qs_len l; have := hf.1; omega)
  have HLV := Lib.hid (fun n h => lv_ok key (qs_nd l) (sl l) n h)
  clear h ha hf hk ht
  go_enter Tryd.func3, Tryd.ntmps3
  go_upto_region 9 with (first
    | (go_at_call 9; refine (vnew_yes H4.out _ key HK.out).mono ?_; rintro e w5 ⟨V, rfl, h5⟩; have H5 := Lib.hid (h5.map fun _ h => sep_under h fun _ h => sep_turn h); clear h5)
    | (go_at_call 8; refine (signed_any _ l h2 (H.out) HA.out HFW.out).mono ?_; rintro e w4 ⟨a4, c4, rfl, h4⟩; have H4 := Lib.hid h4; clear h4)
    | (go_at_call 7; refine (few_any _ (H.out.fr h2.toFr) HA.out).mono ?_; rw [HF.out]; rintro e w3 ⟨rfl, rfl⟩)
    | (go_at_call 6; refine (((Has.here w).fr hf1).ring).mono ?_; rintro e w2 ⟨R, rfl, h2⟩)
    | (go_at_call 5; refine (small_any _).mono ?_; rintro e w1 ⟨rfl, hf1⟩))
  clear h2 hf1 HA HF H H4 HFW
  generalize qs l = q at *
  generalize sl l = ss at *
  go_wp2_with fail
  go_loopw [9] (fun i wr => ∃ k : Nat, k ≤ ss.length ∧ i = .int .i64 k ∧ Hid (Has w wr ((ViewT V R key (lv q key ss k) (vd (lv q key ss k))).sep ((RingT R q).sep ((RowT 37 3 (.slice a4 ss.length c4) ss.length (sgC ss)).sep .emp))))) (fun i _ => ss.length - (intOf i).toNat)
  case atStart => exact ⟨0, Nat.zero_le _, by go_num, H5⟩
  case round =>
    obtain ⟨k, hk, rfl, HR⟩ := hrel
    clear H5
    by_cases hlt : k < ss.length
    ·
      -- slow
      obtain ⟨g, cp, hv, _, hcell⟩ := sg_at HR.out.right.right.row rfl (by omega)
      obtain ⟨rfl, rfl⟩ : a4 = some ⟨g, 0, none⟩ ∧ c4 = cp := by simpa using hv
      have hLN := (HLV.out k hk)
      have HLO := Lib.hid hLN.1
      have HLL := Lib.hid (show (lv q key ss k).length ≤ 100000 from by have := hLN.2; omega)
      have HSU := Lib.hid (lv_succ q key hlt)
      have HG := Lib.hid (HGO.out _ (List.getElem_mem hlt))
      obtain ⟨s, hs⟩ : ∃ s, s = ss[k] := ⟨_, rfl⟩
      obtain ⟨L, hL⟩ : ∃ L, L = lv q key ss k := ⟨_, rfl⟩
      have hck := hcell k hlt
      rw [← hs] at hck HG HSU
      rw [← hL] at HR HLO HLL HSU
      clear hL hLN hcell hv
      have HSC := Lib.hid (show ∀ (w' : World) (base : Nat), w'.ownsRow base 37 3 (.slice (some ⟨g, 0, none⟩) ss.length c4) ss.length (sgC ss) → w'.cell? ⟨g, k * 3, none⟩ = some (.int .i64 s.1) ∧ w'.cell? ⟨g, k * 3 + 1, none⟩ = some (.string (S s.2.1)) ∧ w'.cell? ⟨g, k * 3 + 2, none⟩ = some (.int .i64 s.2.2) from fun w' base h => by
        have h1 := sg_cell h rfl k hlt
        rw [← hs] at h1
        exact ⟨h1.c0, h1.c1, h1.c2⟩)
      clear hs hck
      have HRD := Lib.hid (fun w' => read_any s.2.1 w' (HG.out.2.1))
      have HCL := Lib.hid (fun w' (U : Thing) (h : Has w w' ((ViewT V R key L (vd L)).sep U)) => vclash h HLO.out HQN.out HLL.out s HG.out.2.1)
      have HBY := Lib.hid (fun w' (U : Thing) (h : Has w w' ((ViewT V R key L (vd L)).sep U)) => vbytes h HK.out HLL.out (HLO.out.wok HQL.out) (HT.out.fr h.toFr))
      have HAC := Lib.hid (fun w' (U : Thing) (h : Has w w' ((ViewT V R key L (vd L)).sep ((RingT R q).sep U))) => vacc h HLO.out HQN.out HQL.out HLL.out s HG.out)
      have HME := Lib.hid (mn_yes (s := s) HLO.out HQN.out)
      have HMN := Lib.hid (mn_no (s := s) HLO.out HQN.out)
      have HCS := Lib.hid (fun x (h : clR L s = some x) => clR_some h)
      have HMD := Lib.hid (show mnB q key s = (holds q s && decide (s.1 = key) && (match readC s.2.1 with | none => false | some c => decide (c.k ≤ 2))) from rfl)
      have HRS := Lib.hid (fun c (h : readC s.2.1 = some c) => (readC_some.1 h).1)
      unfold sgV at HCL HAC
      obtain ⟨sk, st, sm⟩ := s
      simp only at HRD HCL HAC HSC HMD HCS HRS
      simp only [readV_eq] at HRD
      simp only [clV_eq] at HCL
      obtain ⟨o, ho⟩ : ∃ o, o = readC st := ⟨_, rfl⟩
      obtain ⟨x, hx⟩ : ∃ x, x = clR L (sk, st, sm) := ⟨_, rfl⟩
      obtain ⟨mn, hmn⟩ : ∃ mn, mn = mnB q key (sk, st, sm) := ⟨_, rfl⟩
      obtain ⟨E, hE⟩ : ∃ E, E = aE q key L (sk, st, sm) := ⟨_, rfl⟩
      obtain ⟨L', hL'⟩ : ∃ L', L' = acl q key L (sk, st, sm) := ⟨_, rfl⟩
      rw [← ho] at HRD HMD HCS HRS
      rw [← hx] at HCL HCS HME
      rw [← hmn] at HMD HME HMN
      rw [← hE] at HAC HME HMN
      rw [← hL'] at HAC HSU HME HMN
      clear ho hx hmn hE hL'
      obtain ⟨cz, hcz⟩ : ∃ cz, cz = o.getD zeroC := ⟨_, rfl⟩
      obtain ⟨fe, hfe⟩ : ∃ fe, fe = rdF' o := ⟨_, rfl⟩
      obtain ⟨xz, hxz⟩ : ∃ xz, xz = x.getD (0, [], 0) := ⟨_, rfl⟩
      obtain ⟨xb, hxb⟩ : ∃ xb, xb = x.isSome := ⟨_, rfl⟩
      rw [← hcz, ← hfe] at HRD
      rw [← hxz, ← hxb] at HCL
      have HCZ := Lib.hid hcz
      have HFE := Lib.hid hfe
      have HXZ := Lib.hid hxz
      have HXB := Lib.hid hxb
      clear hcz hfe hxz hxb
      obtain ⟨t0, t1, t2⟩ := HSC.out wr _ HR.out.right.right.row
      go_upto_region 13 with (go_at_call 10; refine (HRD.out _).mono ?_; rintro e w6 ⟨rfl, hf6⟩)
      have H7 := Lib.hid (((HR.out.fr hf6).box 32 #[.int .i64 cz.k, .int .i64 cz.n, .int .i64 cz.t, .string (S cz.s)]).map fun _ h => sep_under (sep_turn h) fun _ h => sep_turn h)
      obtain ⟨X, hX⟩ : ∃ X, X = w6.heap.size := ⟨_, rfl⟩
      rw [← hX] at H7 ⊢
      clear hX hf6 t0 t1 t2 HRD
      generalize w6.alloc (.cells #[.int .i64 cz.k, .int .i64 cz.n, .int .i64 cz.t, .string (S cz.s)] 32) = w7 at *
      obtain ⟨t0, t1, t2⟩ := HSC.out w7 _ H7.out.right.right.right.row
      go_upto_region 14 with (go_at_call 11; refine (HCL.out _ _ H7.out).mono ?_; rintro e w8 ⟨rfl, hf8⟩)
      have H9 := Lib.hid (((H7.out.fr hf8).box 37 #[.int .i64 xz.1, .string (S xz.2.1), .int .i64 xz.2.2]).map fun _ h => sep_under (sep_turn h) fun _ h => sep_turn h)
      obtain ⟨Y, hY⟩ : ∃ Y, Y = w8.heap.size := ⟨_, rfl⟩
      rw [← hY] at H9 ⊢
      clear hY hf8 t0 t1 t2 H7
      generalize w8.alloc (.cells #[.int .i64 xz.1, .string (S xz.2.1), .int .i64 xz.2.2] 37) = w9 at *
      obtain ⟨t0, t1, t2⟩ := HSC.out w9 _ H9.out.right.right.right.right.row
      go_upto_region 15 with (go_at_call 12; refine (HBY.out _ _ H9.out).mono ?_; rintro e w10 ⟨rfl, hf10⟩)
      have H10 := Lib.hid (H9.out.fr hf10)
      clear hf10 H9 t0 t1 t2
      obtain ⟨t0, t1, t2⟩ := HSC.out w10 _ H10.out.right.right.right.right.row
      go_upto_region 16 with (go_at_call 13; refine (HAC.out _ _ H10.out).mono ?_; rintro e w11 ⟨rfl, h11⟩; have H11 := Lib.hid h11; clear h11)
      clear t0 t1 t2 H10
      have HTS := Lib.hid (show ∀ w', Fr w11 w' → w'.cell? ⟨g, k * 3, none⟩ = some (.int .i64 sk) from fun w' hf => (HSC.out w' _ (H11.out.fr hf).right.right.right.right.row).1)
      obtain ⟨t0, t1, t2⟩ := HSC.out w11 _ H11.out.right.right.right.right.row
      have HXC := Lib.hid (show ∀ w', Fr w11 w' → w'.cell? ⟨X, 0, none⟩ = some (.int .i64 cz.k) from fun w' hf => cellOf (H11.out.fr hf).right.right.right.boxed rfl)
      have HVA := Lib.hid (H11.out.turn.valid (sk, st, sm) HQL.out)
      unfold sgV at HVA
      have HOB := Lib.hid (show ∀ c, o = some c → 0 ≤ c.k ∧ c.k ≤ 4 from fun c h => ⟨(ok_bounds (HRS.out c h)).1, (ok_bounds (HRS.out c h)).2.1⟩)
      simp only at HVA
      go_cut [16] (fun m wx => m = .bool mn ∧ Hid (Fr w11 wx))
      case first =>
        -- slow
        obtain ⟨hb, hhb⟩ : ∃ hb, hb = holds q (sk, st, sm) := ⟨_, rfl⟩
        rw [← hhb] at HVA HMD
        clear hhb
        cases hb with
        | false =>
          obtain rfl : mn = false := by rw [HMD.out]; rfl
          go_wp2_with (go_at_call 14; refine HVA.out.mono ?_; rintro e w12 ⟨rfl, hf12⟩)
          go_meet
          exact ⟨rfl, Lib.hid hf12⟩
        | true =>
          by_cases hke : sk = key
          · subst hke
            cases o with
            | none =>
              obtain rfl : mn = false := by rw [HMD.out]; simp
              obtain rfl : fe = 2 := HFE.out
              go_wp2_with (go_at_call 14; refine HVA.out.mono ?_; rintro e w12 ⟨rfl, hf12⟩; have t0' := HTS.out _ hf12)
              go_meet
              exact ⟨rfl, Lib.hid hf12⟩
            | some c =>
              obtain rfl : fe = 0 := HFE.out
              obtain rfl : cz = c := HCZ.out
              obtain ⟨hc0, hc4⟩ := HOB.out cz rfl
              obtain rfl : mn = decide (cz.k ≤ 2) := by rw [HMD.out]; simp
              have hcase : cz.k = 0 ∨ cz.k = 1 ∨ cz.k = 2 ∨ cz.k = 3 ∨ cz.k = 4 := by omega
              clear hc0 hc4
              rcases hcase with h | h | h | h | h
              all_goals
                rw [h] at HXC ⊢
                go_wp2_with (go_at_call 14; refine HVA.out.mono ?_; rintro e w12 ⟨rfl, hf12⟩; have t0' := HTS.out _ hf12; have x0' := HXC.out _ hf12)
                go_meet
                exact ⟨by rw [h]; rfl, Lib.hid hf12⟩
          · obtain rfl : mn = false := by rw [HMD.out, decide_eq_false hke]; rfl
            have hke' : (sk == key) = false := by simpa using hke
            go_wp2_with (go_at_call 14; refine HVA.out.mono ?_; rintro e w12 ⟨rfl, hf12⟩; have t0' := HTS.out _ hf12)
            go_meet
            exact ⟨rfl, Lib.hid hf12⟩
        -- /slow
      case rest =>
        rename World => w12
        obtain ⟨rfl, HF12⟩ := hcut
        have H12 := Lib.hid (H11.out.fr HF12.out)
        clear H11 HF12 HVA HTS HXC t0 t1 t2 HMD
        have HB2 := Lib.hid (show mn = false → L' = L from fun h => (HMN.out h).2.2)
        go_upto_region 17 with fail
        go_cut [149] (fun b wx => b = .bool false ∧ Hid (Fr w12 wx))
        case first =>
          -- slow
          cases mn with
          | true =>
            rcases HME.out rfl with ⟨rfl, hx⟩ | ⟨rfl, hl, y, hx⟩
            · obtain rfl : xb = false := by rw [HXB.out, hx]; rfl
              go_wp2_with fail
              go_meet
              exact ⟨rfl, Lib.hid (Fr.refl _)⟩
            · obtain rfl : xb = true := by rw [HXB.out, hx]; rfl
              obtain rfl := hl
              go_wp2_with (go_at_call 12; refine (HBY.out _ _ H12.out).mono ?_; rintro e w13 ⟨rfl, hf13⟩)
              go_meet
              exact ⟨rfl, Lib.hid hf13⟩
          | false =>
            obtain ⟨he0, he21, hl⟩ := HMN.out rfl
            obtain rfl := hl
            have he0' : (E == 0) = false := by simpa using he0
            have he21' : (E == 21) = false := by simpa using he21
            go_wp2_with (go_at_call 12; refine (HBY.out _ _ H12.out).mono ?_; rintro e w13 ⟨rfl, hf13⟩)
            go_meet
            exact ⟨rfl, Lib.hid hf13⟩
          -- /slow
        case rest =>
          rename World => w13
          obtain ⟨rfl, HF13⟩ := hcut
          have H13 := Lib.hid (H12.out.fr HF13.out)
          clear HF13 H12 HMN HME
          have HNX := Lib.hid (show ∀ w', Fr w13 w' → Has w w' ((ViewT V R key (lv q key ss (k + 1)) (vd (lv q key ss (k + 1)))).sep ((RingT R q).sep ((RowT 37 3 (.slice (some ⟨g, 0, none⟩) ss.length c4) ss.length (sgC ss)).sep .emp))) from fun w' hf => by
            rw [HSU.out]
            exact (H13.out.fr hf).pull3.right.pull3.right)
          cases x with
          | none =>
            obtain rfl : xb = false := HXB.out
            go_wp2_with fail
            go_roundw
            case rel => exact ⟨k + 1, by omega, by go_num, Lib.hid (HNX.out _ (Fr.refl _))⟩
            case measure => simp [intOf]; omega
          | some y =>
            obtain rfl : xb = true := HXB.out
            obtain rfl : xz = y := HXZ.out
            obtain ⟨hyL, c, hoc, hct⟩ := HCS.out xz rfl
            subst hoc
            obtain rfl : cz = c := HCZ.out
            have HLG := Lib.hid (HLO.out.log xz hyL)
            have HVL := Lib.hid (HLO.out.val xz hyL)
            have HKY := Lib.hid (HLO.out.key xz hyL)
            have HOC := Lib.hid (contra_ok hct)
            have HCT := Lib.hid hct
            have hb1 := H13.out.right.right.right.boxed
            have hb2 := H13.out.right.right.boxed
            have HX13 := Lib.hid (show ∀ w', Fr w13 w' → (w'.cell? ⟨X, 0, none⟩ = some (.int .i64 cz.k) ∧ w'.cell? ⟨X, 1, none⟩ = some (.int .i64 cz.n) ∧ w'.cell? ⟨X, 2, none⟩ = some (.int .i64 cz.t) ∧ w'.cell? ⟨X, 3, none⟩ = some (.string (S cz.s))) ∧ (w'.cell? ⟨Y, 0, none⟩ = some (.int .i64 xz.1) ∧ w'.cell? ⟨Y, 1, none⟩ = some (.string (S xz.2.1)) ∧ w'.cell? ⟨Y, 2, none⟩ = some (.int .i64 xz.2.2)) from fun w' hf =>
              ⟨⟨cellOf (hf.heap hb1) rfl, cellOf (hf.heap hb1) rfl, cellOf (hf.heap hb1) rfl, cellOf (hf.heap hb1) rfl⟩, cellOf (hf.heap hb2) rfl, cellOf (hf.heap hb2) rfl, cellOf (hf.heap hb2) rfl⟩)
            have HVX := Lib.hid (fun w' (hf : Fr w13 w') => (H13.out.fr hf).turn.valid xz HQL.out)
            rw [HVL.out] at HVX
            clear hyL hct hb1 hb2 HCS HRS
            obtain ⟨yk, yt, ym⟩ := xz
            simp only at HLG HKY HX13 HCT HOC HVX
            obtain ⟨d, hd⟩ : ∃ d, d = clm yt := ⟨_, rfl⟩
            rw [← hd] at HLG HCT HOC
            have HRY := Lib.hid (fun w' => read_any yt w' (by have h1 := (readC_some.1 HLG.out.1); rw [h1.2]; have := textC_len h1.1; omega))
            simp only [HLG.out.1, readV_eq, Option.getD_some, rdF'_some] at HRY
            have HCC := Lib.hid (fun w' => contra_any cz d w' (ok_fits HOC.out.2) (ok_fits HOC.out.1))
            rw [contra_comm, HCT.out] at HCC
            unfold C.v at HCC
            unfold sgV at HVX
            simp only at HVX
            obtain rfl := HKY.out
            obtain ⟨_, _, y1, _⟩ := HX13.out w13 (Fr.refl _)
            clear hd
            go_upto_region 21 with (go_at_call 10; refine (HRY.out _).mono ?_; rintro e w14 ⟨rfl, hf14⟩)
            have HF15 := Lib.hid (hf14.trans (Fr.alloc w14 (.cells #[.int .i64 d.k, .int .i64 d.n, .int .i64 d.t, .string (S d.s)] 32)))
            obtain ⟨e0, e1, e2, e3⟩ := CAt.new w14 d
            obtain ⟨D, hD⟩ : ∃ D, D = w14.heap.size := ⟨_, rfl⟩
            rw [← hD] at e0 e1 e2 e3 ⊢
            clear hD hf14 y1
            generalize w14.alloc (.cells #[.int .i64 d.k, .int .i64 d.n, .int .i64 d.t, .string (S d.s)] 32) = w15 at *
            obtain ⟨⟨x0, x1, x2, x3⟩, _⟩ := HX13.out w15 HF15.out
            go_wp2_with (first
              | (go_at_call 14; refine (HVX.out _ HF16.out).mono ?_; rintro e w17 ⟨rfl, hf17⟩; have HF17 := Lib.hid (HF16.out.trans hf17); obtain ⟨_, ⟨y0, y1, y2⟩⟩ := HX13.out w17 HF17.out)
              | (go_at_call 15; refine (HCC.out _).mono ?_; rintro e w16 ⟨rfl, hf16⟩; have HF16 := Lib.hid (HF15.out.trans hf16); obtain ⟨_, ⟨y0, y1, y2⟩⟩ := HX13.out w16 HF16.out; clear hf16))
            go_roundw
            case rel => exact ⟨k + 1, by omega, by go_num, Lib.hid (HNX.out _ HF17.out)⟩
            case measure => simp [intOf]; omega
      -- /slow
    · obtain rfl : k = ss.length := by omega
      have hLN := HLV.out ss.length (Nat.le_refl _)
      have HLO := Lib.hid hLN.1
      have hll : (lv q key ss ss.length).length ≤ 20 := by have := hLN.2; omega
      obtain ⟨L, hL⟩ : ∃ L, L = lv q key ss ss.length := ⟨_, rfl⟩
      rw [← hL] at HR HLO hll
      clear hL hLN
      go_upto_region 24 with (go_at_call 16; refine (vclaims HR.out (by omega)).mono ?_; rintro e w20 ⟨cv, rfl, hcv, hf⟩)
      have HV := Lib.hid (HR.out.fr hf)
      have HRW := Lib.hid hcv
      obtain ⟨a2, c2, rfl⟩ := row_form hcv
      clear hf hcv HR HGO HSB HLV
      go_wp2_with fail
      go_loopw [20] (fun i wr => ∃ i' : Nat, i' ≤ L.length ∧ i = .int .i64 i' ∧ Hid (Fr w20 wr)) (fun i _ => L.length - (intOf i).toNat)
      case atStart => exact ⟨0, Nat.zero_le _, by go_num, Lib.hid (Fr.refl _)⟩
      case round =>
        obtain ⟨i, hi, rfl, HF⟩ := hrel
        by_cases hlt2 : i < L.length
        · obtain ⟨g, cp, hv, _, hcell⟩ := sg_at HRW.out rfl (by omega)
          obtain ⟨rfl, rfl⟩ : a2 = some ⟨g, 0, none⟩ ∧ c2 = cp := by simpa using hv
          have HCE := Lib.hid hcell
          clear hv hcell
          have HLG := Lib.hid (fun j (h : j < L.length) => HLO.out.log _ (List.getElem_mem h))
          have HVL := Lib.hid (HLO.out.val _ (List.getElem_mem hlt2))
          have HKY := Lib.hid (HLO.out.key _ (List.getElem_mem hlt2))
          have HCN := Lib.hid (fun j (h : j < L.length) => HLO.out.con _ (List.getElem_mem hlt2) _ (List.getElem_mem h))
          have HLI := Lib.hid (HLG.out i hlt2)
          have HNE := Lib.hid (fun j (h : j < i) => show L[i].2.2 ≠ (L[j]'(by omega)).2.2 from fun e => by
            have h1 := holds_mark HVL.out (HLO.out.val _ (List.getElem_mem (show j < L.length by omega))) e
            have h2 := (List.getElem_inj HLO.out.nd).1 h1
            omega)
          have HSI := Lib.hid (fun w' (hf : Fr w20 w') => (HCE.out i hlt2).fr hf)
          obtain ⟨s, hs⟩ : ∃ s, s = L[i] := ⟨_, rfl⟩
          rw [← hs] at HVL HKY HCN HLI HNE HSI
          clear hs
          obtain ⟨sk, st, sm⟩ := s
          simp only at HKY HCN HLI HNE
          obtain rfl := HKY.out
          obtain ⟨c, hc⟩ : ∃ c, c = clm st := ⟨_, rfl⟩
          rw [← hc] at HLI HCN
          clear hc
          have HRX := Lib.hid (fun w' => read_any st w' (by have h1 := (readC_some.1 HLI.out.1); rw [h1.2]; have := textC_len h1.1; omega))
          simp only [HLI.out.1, readV_eq, Option.getD_some, rdF'_some] at HRX
          have HVX := Lib.hid (fun w' (hf : Fr w20 w') => (HV.out.fr hf).turn.valid (sk, st, sm) HQL.out)
          rw [HVL.out] at HVX
          unfold sgV at HVX
          simp only at HVX
          have t1 := (HSI.out wr HF.out).c1
          simp only at t1
          go_upto_region 28 with (go_at_call 10; refine (HRX.out _).mono ?_; rintro e w21 ⟨rfl, hf21⟩)
          have HF22 := Lib.hid (HF.out.trans (hf21.trans (Fr.alloc w21 (.cells #[.int .i64 c.k, .int .i64 c.n, .int .i64 c.t, .string (S c.s)] 32))))
          have HCC := Lib.hid (CAt.new w21 c)
          obtain ⟨X, hX⟩ : ∃ X, X = w21.heap.size := ⟨_, rfl⟩
          rw [← hX] at HCC ⊢
          clear hX hf21 t1 HF
          generalize w21.alloc (.cells #[.int .i64 c.k, .int .i64 c.n, .int .i64 c.t, .string (S c.s)] 32) = w22 at *
          obtain ⟨t0, t1, t2⟩ := HSI.out w22 HF22.out
          simp only at t0 t1 t2
          go_upto_region 30 with (go_at_call 14; refine (HVX.out _ HF22.out).mono ?_; rintro e w23 ⟨rfl, hf23⟩; have t0' := hf23.cell t0)
          have HF23 := Lib.hid (HF22.out.trans hf23)
          have HCX := Lib.hid (show ∀ w', Fr w23 w' → CAt w' X c from fun w' hf => HCC.out.fr (hf23.trans hf))
          clear HCC hf23 t0 t1 t2 t0' HF22 HVX HRX
          go_wp2_with fail
          go_loopw [23] (fun j wr => ∃ j' : Nat, j' ≤ i ∧ j = .int .i64 j' ∧ Hid (Fr w23 wr)) (fun j _ => i - (intOf j).toNat)
          case atStart => exact ⟨0, Nat.zero_le _, by go_num, Lib.hid (Fr.refl _)⟩
          case round =>
            obtain ⟨j, hj, rfl, HG⟩ := hrel
            by_cases hlt3 : j < i
            · have hjl : j < L.length := by omega
              have HLJ := Lib.hid (HLG.out j hjl)
              have HCJ := Lib.hid (HCN.out j hjl)
              have HNJ := Lib.hid (HNE.out j hlt3)
              have HSJ := Lib.hid (fun w' (hf : Fr w20 w') => (HCE.out j hjl).fr hf)
              obtain ⟨s2, hs2⟩ : ∃ s2, s2 = L[j] := ⟨_, rfl⟩
              rw [← hs2] at HLJ HCJ HNJ HSJ
              clear hs2
              obtain ⟨s2k, s2t, s2m⟩ := s2
              simp only at HLJ HCJ HNJ
              obtain ⟨d, hd⟩ : ∃ d, d = clm s2t := ⟨_, rfl⟩
              rw [← hd] at HLJ HCJ
              clear hd
              have HRY := Lib.hid (fun w' => read_any s2t w' (by have h1 := (readC_some.1 HLJ.out.1); rw [h1.2]; have := textC_len h1.1; omega))
              simp only [HLJ.out.1, readV_eq, Option.getD_some, rdF'_some] at HRY
              have HCC := Lib.hid (fun w' => contra_any c d w' (ok_fits (readC_some.1 HLI.out.1).1) (ok_fits (readC_some.1 HLJ.out.1).1))
              rw [HCJ.out] at HCC
              unfold C.v at HCC
              have t1 := (HSJ.out wr (HF23.out.trans HG.out)).c1
              simp only at t1
              go_upto_region 34 with (go_at_call 10; refine (HRY.out _).mono ?_; rintro e w24 ⟨rfl, hf24⟩)
              have HG25 := Lib.hid (HG.out.trans (hf24.trans (Fr.alloc w24 (.cells #[.int .i64 d.k, .int .i64 d.n, .int .i64 d.t, .string (S d.s)] 32))))
              have hdc := CAt.new w24 d
              obtain ⟨Y, hY⟩ : ∃ Y, Y = w24.heap.size := ⟨_, rfl⟩
              rw [← hY] at hdc ⊢
              clear hY hf24 t1
              generalize w24.alloc (.cells #[.int .i64 d.k, .int .i64 d.n, .int .i64 d.t, .string (S d.s)] 32) = w25 at *
              obtain ⟨x0, x1, x2, x3⟩ := HCX.out w25 HG25.out
              obtain ⟨y0, y1, y2, y3⟩ := hdc
              obtain ⟨a0, a1, a2⟩ := HSI.out w25 (HF23.out.trans HG25.out)
              obtain ⟨b0, b1, b2⟩ := HSJ.out w25 (HF23.out.trans HG25.out)
              simp only at a0 a1 a2 b0 b1 b2
              have hne : (sm == s2m) = false := by have := HNJ.out; simpa using this
              refine wp_region_cls (D := Cls w25) (by kernel_rfl) (by kernel_rfl) (Fr.drew w25) ?_
              repeat (go_big_quiet_step (first
                | (intro hw'; with_reducible rfl)
                | (intro hw'; go_at_call 15; exact (HCC.out _).mono fun e w'' ⟨he, hf⟩ => ⟨he, hw'.of hf⟩)
                | (intro hw'; have g0 := Fr.cell hw' x0; have g1 := Fr.cell hw' x1; have g2 := Fr.cell hw' x2; have g3 := Fr.cell hw' x3; simp only [g0, g1, g2, g3, Result.andThen]; exact ⟨trivial, rfl⟩)
                | (intro hw'; have g0 := Fr.cell hw' y0; have g1 := Fr.cell hw' y1; have g2 := Fr.cell hw' y2; have g3 := Fr.cell hw' y3; simp only [g0, g1, g2, g3, Result.andThen]; exact ⟨trivial, rfl⟩)
                | (intro hw'; have g0 := Fr.cell hw' a0; have g1 := Fr.cell hw' a1; have g2 := Fr.cell hw' a2; simp only [g0, g1, g2, Result.andThen]; exact ⟨trivial, rfl⟩)
                | (intro hw'; have g0 := Fr.cell hw' b0; have g1 := Fr.cell hw' b1; have g2 := Fr.cell hw' b2; simp only [g0, g1, g2, Result.andThen]; exact ⟨trivial, rfl⟩)))
              refine wpQuiet_nil ?_
              intro w26 hw26
              go_wp2_with fail
              go_roundw
              case rel => exact ⟨j + 1, by omega, by go_num, Lib.hid (HG25.out.trans hw26)⟩
              case measure => simp [intOf]; omega
            · obtain rfl : j = i := by omega
              go_wp2_with fail
              go_roundw
              case rel => exact ⟨j + 1, by omega, by go_num, Lib.hid (HF23.out.trans HG.out)⟩
              case measure => simp [intOf]; omega
        · go_wp2_with fail
          go_ret
          exact ⟨rfl, HV.out.toFr.trans HF.out⟩
theorem keeps_any (v : Value) (l : List Sy) (key : Int) (w : World) (ht : Tab w) (h : SySl w v l) (ha : SArg l) :
    Calls Tryd.prog 3 #[v, .int .i64 key] w fun e w' => e = .returned (.bool true) ∧ Fr w w' := by
  by_cases hf : FewY l
  · by_cases hk : IsKey key
    · exact keeps_yes v l key w h ha hf hk ht
    · exact keeps_nokey v l key w h ha hf hk
  · exact keeps_not v l key w h ha hf
end Go.Proofs.YtapdabebiinnnaaDoor
