/-
  Reading a view: a reader as a Thing; parse.
-/
import Derived.Test.YtapdabebiinnnaaGreatDoorVnr
import Derived.Test.YtapdabebiinnnaaGreatDoorBld
import Derived.Deep.RegionHeldLaw
import Derived.Deep.AppendSrc
import Derived.OwnWalk
namespace Go.Proofs.YtapdabebiinnnaaGreatDoor
open Go.RowKit Go.MapKept Go.Maps Go.WideMaps

/-- Every block but b is as it was, if it holds no bytes. -/
def Kp (b : Nat) (w w' : World) : Prop := ∀ (K : Nat) (cs : Array Value) (T : TypeId) (fr : Nat × Nat), K ≠ b → w.heap[K]? = some (.cells cs T fr) → T ≠ 5 → w'.heap[K]? = some (.cells cs T fr)
theorem Kp.refl (b : Nat) (w : World) : Kp b w w := fun _ _ _ _ _ h _ => h
theorem Kp.set {b : Nat} {w w' : World} (h : Kp b w w') (i : Nat) (v : Value) : Kp b w (w'.setCell ⟨b, i, none⟩ v) := fun K cs T fr hK h1 hT => (heap_setCell_other w' ⟨b, i, none⟩ K v hK).trans (h K cs T fr hK h1 hT)
theorem copyCheckK (B b : Nat) (bs : List Value) (w : World) (h : Lib.IsBuilder 96 5 B b bs w) :
    Calls Tryz.prog 86 #[.pointer (some ⟨b, 0, none⟩)] w fun e w' => e = .returned (.tuple #[]) ∧ Lib.BuilderAt 96 5 B b (.pointer (some ⟨b, 0, none⟩)) bs w' ∧ Below B w w' ∧ Kp b w w' := by
  rcases h with h | h
  · refine (copyCheck_fresh b w h.cell0 h.shape h.frozen0).mono ?_
    rintro e w' ⟨rfl, rfl⟩
    exact ⟨rfl, h.used _, (Below.refl B w).setCell (p := ⟨b, 0, none⟩) h.1 _, (Kp.refl b w).set 0 _⟩
  · refine (copyCheck_used b w h.cell0).mono ?_
    rintro e w' ⟨rfl, rfl⟩
    exact ⟨rfl, h, Below.refl B _, Kp.refl b _⟩
set_option maxHeartbeats 2000000 in
set_option maxRecDepth 100000 in
theorem writeStringK (B b : Nat) (bs : List Value) (s : ByteArray) (w : World) (h : Lib.IsBuilder 96 5 B b bs w) (hlen : bs.length + s.size ≤ 140737488355328) (hBw : B ≤ w.heap.size) :
    Calls Tryz.prog 53 #[.pointer (some ⟨b, 0, none⟩), .string s] w fun e w' => e = .returned (.tuple #[.int .i64 s.size, .nilIface]) ∧ Lib.BuilderAt 96 5 B b (.pointer (some ⟨b, 0, none⟩)) (bs ++ Lib.strCells s) w' ∧ Below B w w' ∧ Kp b w w' := by
  obtain ⟨i0, hi, hz0, hz1, hz2⟩ := info_parts infoByte
  go_enter Tryz.func53, Tryz.ntmps53
  go_wp2_with (go_at_call 86; refine (copyCheckK B b bs _ h).mono ?_)
  rintro e w1 ⟨rfl, h1, hb1, hk1⟩
  obtain ⟨hB, v, hbk, hown, hne⟩ := h1
  have c0 : w1.cell? ⟨b, 0, none⟩ = some (.pointer (some ⟨b, 0, none⟩)) := by rw [Lib.cell_of_heap hbk]; rfl
  have c1 : w1.cell? ⟨b, 1, none⟩ = some v := by rw [Lib.cell_of_heap hbk]; rfl
  have HK1 := Lib.hid hk1
  clear hk1
  go_wp2_with (at_builtin; refine Lib.wpList_append_own_string _ rfl _ _ 94 9 rfl B 5 i0 Tryz.underlying94 Tryz.underlying9 hi hz0 hz1 hz2 _ _ _ rfl hown s rfl ?c3 ?c4 ?c5 ?_)
  case c3 => unfold maxLen; omega
  case c4 => omega
  case c5 => have := hb1.size; omega
  intro v' w2 hown' hgrow _
  have hlt : b < w1.heap.size := by
    rcases Nat.lt_or_ge b w1.heap.size with h' | h'
    · exact h'
    · simp [Array.getElem?_eq_none h'] at hbk
  have hb2 : w2.heap[b]? = some (.cells #[.pointer (some ⟨b, 0, none⟩), v] 96 (0, 0)) := by
    rw [hgrow.block b hlt (fun e => hne e.symm)]
    exact hbk
  have HK2 := Lib.hid (show Kp b w w2 from fun K cs T fr hK h1 hT => by
    have h2 := HK1.out K cs T fr hK h1 hT
    have hl : K < w1.heap.size := by
      rcases Nat.lt_or_ge K w1.heap.size with h' | h'
      · exact h'
      · simp [Array.getElem?_eq_none h'] at h2
    rw [hgrow.block K hl (fun e => Lib.ownBlock_ne hown h2 hT e.symm)]
    exact h2)
  have d0 : w2.cell? ⟨b, 0, none⟩ = some (.pointer (some ⟨b, 0, none⟩)) := by rw [Lib.cell_of_heap hb2]; rfl
  have d1 : w2.cell? ⟨b, 1, none⟩ = some v := by rw [Lib.cell_of_heap hb2]; rfl
  have f1 : w2.frozen? ⟨b, 1, none⟩ = false := Lib.frozen_of_heap hb2 1
  obtain ⟨ao, n', cap, rfl⟩ : ∃ ao n' cap, v' = .slice ao n' cap := by
    rcases hown'.2 with ⟨hv, _⟩ | ⟨g, cap, cur, hv, _⟩
    · exact ⟨_, _, _, hv⟩
    · exact ⟨_, _, _, hv⟩
  go_wp2
  go_ret2
  refine ⟨rfl, ?_, ?_, HK2.out.set 1 _⟩
  · exact Lib.BuilderAt.put (T := 96) (e := 5) hB hb2 (bs' := bs ++ Lib.strCells s) (by simpa [Lib.strCells_length] using hown') (by decide)
  · exact (hb1.grown hgrow (by have := hb1.size; omega) (fun k hk => (hown.lt k hk).1)).setCell (p := ⟨b, 1, none⟩) hB _

/-- The builder in block B, which the call has made itself, holds the bytes l. -/
def Bd (B : Nat) (l : List UInt8) (w : World) : Prop := Lib.IsBuilder 96 5 B B (Lib.byteCells l) w
theorem Bd.fresh (w : World) : Bd w.heap.size [] (w.alloc (.cells #[.pointer none, .slice none 0 0] 96)) := Lib.fresh_isBuilder _ _ w
theorem builderAt_fr {T e : TypeId} {B b : Nat} {p : Value} {bs : List Value} {w w' : World} (h : Lib.BuilderAt T e B b p bs w) (hf : Fr w w') : Lib.BuilderAt T e B b p bs w' := by
  obtain ⟨hB, v, hb, hown, hne⟩ := h
  exact ⟨hB, v, hf.heap hb, hown.kept hf (by cases v.ownBlock <;> simp), hne⟩
theorem Bd.fr {B : Nat} {l : List UInt8} {w w' : World} (h : Bd B l w) (hf : Fr w w') : Bd B l w' := by
  rcases h with h | h
  · exact .inl (builderAt_fr h hf)
  · exact .inr (builderAt_fr h hf)
theorem Bd.lt {B : Nat} {l : List UInt8} {w : World} (h : Bd B l w) : B < w.heap.size := by
  rcases h with h | h <;> exact h.lt
theorem bd_str {B : Nat} {l : List UInt8} (s : List UInt8) {w : World} (h : Bd B l w) (hl : l.length + s.length < 140737488355328) :
    Calls Tryz.prog 53 #[.pointer (some ⟨B, 0, none⟩), .string (S s)] w fun e w' => e = .returned (.tuple #[.int .i64 s.length, .nilIface]) ∧ Bd B (l ++ s) w' ∧ Below B w w' ∧ Kp B w w' := by
  refine (writeStringK B B _ _ w h (by rw [Lib.byteCells_length]; show l.length + s.length ≤ _; omega) (Nat.le_of_lt h.lt)).mono ?_
  rintro e w' ⟨rfl, h1, h2, h3⟩
  exact ⟨rfl, .inr (by rw [Lib.byteCells_append]; exact h1), h2, h3⟩
theorem bd_string {B : Nat} {l : List UInt8} {w : World} (h : Bd B l w) :
    Calls Tryz.prog 54 #[.pointer (some ⟨B, 0, none⟩)] w fun e w' => e = .returned (.string (S l)) ∧ Below B w w' :=
  Tryz.Builder_String_any B B l w h (Nat.le_of_lt h.lt)
/-- A builder that a call has made since the world w. -/
def BdF (w : World) (l : List UInt8) (w' : World) : Prop := Bd w.heap.size l w' ∧ Fr w w'
theorem BdF.fr {w w1 w2 : World} {l : List UInt8} (h : BdF w l w1) (hf : Fr w1 w2) : BdF w l w2 := ⟨h.1.fr hf, h.2.trans hf⟩
theorem BdF.str {w w1 : World} {l : List UInt8} (h : BdF w l w1) (s : List UInt8) (hl : l.length + s.length < 140737488355328) :
    Calls Tryz.prog 53 #[.pointer (some ⟨w.heap.size, 0, none⟩), .string (S s)] w1 fun e w' => e = .returned (.tuple #[.int .i64 s.length, .nilIface]) ∧ BdF w (l ++ s) w' ∧ Kp w.heap.size w1 w' := by
  refine (bd_str s h.1 hl).mono ?_
  rintro e w' ⟨rfl, h1, h2, h3⟩
  exact ⟨rfl, ⟨h1, Fr.of_below (h.2.below.trans h2)⟩, h3⟩
theorem BdF.string {w w1 : World} {l : List UInt8} (h : BdF w l w1) : Calls Tryz.prog 54 #[.pointer (some ⟨w.heap.size, 0, none⟩)] w1 fun e w' => e = .returned (.string (S l)) ∧ Fr w w' := by
  refine (bd_string h.1).mono ?_
  rintro e w' ⟨rfl, h2⟩
  exact ⟨rfl, Fr.of_below (h.2.below.trans h2)⟩

/-- The bytes of a view. -/
def sgE (s : Sg) : Txt := (Wm.numE 59).f s.2.2 ++ Wm.textE.f s.2.1
def byT (k : Int) (l : List Sg) : Txt := (Wm.numE 59).f k ++ (Wm.numE 59).f (l.length : Int) ++ l.flatMap sgE
theorem num_len (n : Int) (h0 : 0 ≤ n) (h1 : n ≤ 9223372036854775807) : ((Wm.numE 59).f n).length ≤ 40 := by
  have := Lib.itoa_length_le n (by omega) h1
  rw [Wm.numE_f]; simp; omega
theorem text_lenE (t : Txt) (h : t.length ≤ 20100) : (Wm.textE.f t).length ≤ 20200 := by
  have := Lib.itoa_length_le t.length (by omega) (by omega)
  rw [Wm.textE_f]; simp; omega
theorem flat_takeS (l : List Sg) (k : Nat) (h : k < l.length) : (l.take (k + 1)).flatMap sgE = (l.take k).flatMap sgE ++ ((Wm.numE 59).f l[k].2.2 ++ Wm.textE.f l[k].2.1) := by
  rw [List.take_add_one, List.getElem?_eq_getElem h, List.flatMap_append]; simp [sgE]
/-- Fit to be written. -/
def WOk (l : List Sg) : Prop := ∀ s ∈ l, (0 ≤ s.2.2 ∧ s.2.2 ≤ 9223372036854775807) ∧ s.2.1.length ≤ 20100
theorem sgE_len {s : Sg} (h : (0 ≤ s.2.2 ∧ s.2.2 ≤ 9223372036854775807) ∧ s.2.1.length ≤ 20100) : (sgE s).length ≤ 20240 := by
  have h1 := num_len _ h.1.1 h.1.2
  have h2 := text_lenE _ h.2
  unfold sgE
  rw [List.length_append]; omega
theorem flat_sg {l : List Sg} (h : WOk l) : (l.flatMap sgE).length ≤ l.length * 20240 := by
  induction l with
  | nil => simp
  | cons s l ih =>
    have h1 := sgE_len (h s (by simp))
    have h2 := ih (fun x hx => h x (by simp [hx]))
    rw [List.flatMap_cons, List.length_append, List.length_cons]; omega
theorem WOk.take {l : List Sg} (h : WOk l) (k : Nat) : WOk (l.take k) := fun s hs => h s (List.mem_of_mem_take hs)
theorem LOk.wok {q : List Sd} {k : Int} {l : List Sg} (h : LOk q k l) (hq : q.length ≤ 1000000) : WOk l := fun s hs => by
  obtain ⟨h1, h2⟩ := holds_get (h.val s hs)
  have h3 := (List.getElem?_eq_some_iff.1 h2).1
  have h4 := readC_some.1 (h.log s hs).1
  have h5 := textC_len h4.1
  rw [← h4.2] at h5
  refine ⟨⟨h1, by omega⟩, h5⟩
section
variable {W w : World} {B R : Nat} {k : Int} {l : List Sg} {d : VD} {U : Thing}
set_option maxHeartbeats 1000000 in
set_option maxRecDepth 100000 in
theorem vbytes (h : Has W w ((ViewT B R k l d).sep U)) (hk : IsKey k) (hn : l.length ≤ 100000) (hw : WOk l) (ht : Tab w) :
    Calls Tryz.prog 28 #[.pointer (some ⟨B, 0, none⟩)] w fun e w' => e = .returned (.string (S (byT k l))) ∧ Fr w w' := by
  have HB0 := Lib.hid (show BdF w [] (w.alloc (.cells #[.pointer none, .slice none 0 0] 96)) from ⟨Bd.fresh w, Fr.alloc _ _⟩)
  obtain ⟨p, hp⟩ := h.vopen
  have HG := Lib.hid (GSl.own hp.row rfl)
  obtain ⟨a, c, hav⟩ : ∃ a c, p.av = .slice a l.length c := row_form hp.row
  have c1 := hp.cell 1 (.int .i64 k) rfl
  have c2 := hp.cell 2 p.av rfl
  rw [hav] at c2 HG
  have HCS : Hid (∀ w', Fr w w' → w'.cell? ⟨B, 1, none⟩ = some (.int .i64 k) ∧ w'.cell? ⟨B, 2, none⟩ = some (.slice a l.length c)) := Lib.hid fun w' hf => ⟨hf.cell c1, hf.cell c2⟩
  have hk1 := hk.1
  have hk2 := hk.2
  have HN1 := Lib.hid (fun w' (hf : Fr w w') => num_any k w' hk1 (by omega) (ht.fr hf))
  have HN2 := Lib.hid (fun w' (hf : Fr w w') => num_any (l.length : Int) w' (by omega) (by omega) (ht.fr hf))
  have HL1 := Lib.hid (show ((Wm.numE 59).f k).length ≤ 40 from num_len k hk1 (by omega))
  have HL2 := Lib.hid (show ((Wm.numE 59).f (l.length : Int)).length ≤ 40 from num_len _ (by omega) (by omega))
  have HBY := Lib.hid (show byT k l = (Wm.numE 59).f k ++ (Wm.numE 59).f (l.length : Int) ++ l.flatMap sgE from rfl)
  have HW := Lib.hid hw
  have HT := Lib.hid ht
  generalize byT k l = z at *
  generalize (Wm.numE 59).f k = n1 at *
  generalize (Wm.numE 59).f (l.length : Int) = n2 at *
  have a1 : ∀ w', (Op.stringOp .add (S n1) (S n2)).run Tryz.prog w' = .ok (.string (S (n1 ++ n2))) w' := fun w' => run_concat w' _ _ (by have := HL1.out; have := HL2.out; omega)
  clear hp h hw ht hk
  go_enter Tryz.func28, Tryz.ntmps28
  go_upto_region 2 with fail
  obtain ⟨T, hTe⟩ : ∃ T, T = w.heap.size := ⟨_, rfl⟩
  generalize hw1 : w.alloc (.cells #[.pointer none, .slice none 0 0] 96) = w1 at *
  clear hw1
  have HD := Lib.hid (HCS.out _ (HB0.out.2.trans (Fr.drew w1)))
  have HB1 := Lib.hid (HB0.out.fr (Fr.drew w1))
  go_region_held_law (fun w' => w'.cell? ⟨B, 1, none⟩ = some (.int .i64 k) ∧ w'.cell? ⟨B, 2, none⟩ = some (.slice a l.length c))
    (first | exact HCS.out _ HB4.out.2 | exact HCS.out _ HB3.out.2 | exact HCS.out _ HB2.out.2 | exact HD.out)
    (first
      | (go_at_call 53; refine (HB3.out.str (n1 ++ n2) (by have := HL1.out; have := HL2.out; simp; omega)).mono ?_; rintro e w4 ⟨rfl, hb, _⟩; have HB4 := Lib.hid hb; clear hb)
      | (go_at_call 36; first
          | (refine (HN2.out _ HB2.out.2).mono ?_; rintro e w3 ⟨rfl, hf⟩; have HB3 := Lib.hid (HB2.out.fr hf); clear hf)
          | (refine (HN1.out _ HB1.out.2).mono ?_; rintro e w2 ⟨rfl, hf⟩; have HB2 := Lib.hid (HB1.out.fr hf); clear hf)))
  clear HB0 HB1 HB2 HB3 HD HN1 HN2
  have HB5 := Lib.hid (show BdF w (n1 ++ n2 ++ (l.take 0).flatMap sgE) w4 from by simpa using HB4.out)
  obtain ⟨c1, c2⟩ := HCS.out _ HB4.out.2
  clear HB4
  go_wp2_with fail
  go_loopw [24] (fun i wr => ∃ j : Nat, j ≤ l.length ∧ i = .int .i64 j ∧ Hid (BdF w (n1 ++ n2 ++ (l.take j).flatMap sgE) wr)) (fun i _ => l.length - (intOf i).toNat)
  case atStart => exact ⟨0, Nat.zero_le _, by go_num, HB5⟩
  case round =>
    obtain ⟨j, hj, rfl, HJ⟩ := hrel
    clear HB5 c1 c2
    by_cases hlt : j < l.length
    · rcases HG.out with ⟨h0, _⟩ | ⟨g, o, c', hv, hcell⟩
      · rw [h0] at hlt; exact absurd hlt (by simp)
      obtain ⟨rfl, rfl⟩ : a = some ⟨g, o, none⟩ ∧ c = c' := by simpa using hv
      have hcj := (hcell j hlt).fr HJ.out.2
      have s0 := hcj.c0
      have s1 := hcj.c1
      have s2 := hcj.c2
      have hwj := HW.out _ (List.getElem_mem hlt)
      have HFT := Lib.hid (flat_takeS l j hlt)
      have hfl : ((l.take j).flatMap sgE).length ≤ 100000 * 20240 := by
        have h1 := flat_sg (HW.out.take j)
        have h2 : (l.take j).length ≤ 100000 := by rw [List.length_take]; omega
        calc _ ≤ (l.take j).length * 20240 := h1
          _ ≤ 100000 * 20240 := Nat.mul_le_mul_right _ h2
      have HFL := Lib.hid hfl
      generalize l[j] = y at *
      obtain ⟨yk, yt, ym⟩ := y
      simp only at s0 s1 s2 hwj HFT
      have hm1 := hwj.1.1
      have hm2 := hwj.1.2
      have HN3 := Lib.hid (fun w' (hf : Fr w w') => num_any ym w' hm1 hm2 (HT.out.fr hf))
      have HN4 := Lib.hid (fun w' (hf : Fr w w') => text_any yt w' (by have := hwj.2; omega) (HT.out.fr hf))
      have HL3 := Lib.hid (num_len ym hm1 hm2)
      have HL4 := Lib.hid (text_lenE yt hwj.2)
      generalize (Wm.numE 59).f ym = m1 at *
      generalize Wm.textE.f yt = m2 at *
      have a2 : ∀ w', (Op.stringOp .add (S m1) (S m2)).run Tryz.prog w' = .ok (.string (S (m1 ++ m2))) w' := fun w' => run_concat w' _ _ (by have := HL3.out; have := HL4.out; omega)
      clear hcj hcell hv hwj hm1 hm2 hfl
      go_upto_region 6 with fail
      have HJ1 := Lib.hid ((HJ.out.fr (Fr.alloc wr (.cells #[.int .i64 yk, .string (S yt), .int .i64 ym] 32))).fr (Fr.drew _))
      have hYne : wr.heap.size ≠ w.heap.size := by have := HJ.out.1.lt; omega
      have HY : Hid (∀ w' : World, w'.heap[wr.heap.size]? = some (.cells #[.int .i64 yk, .string (S yt), .int .i64 ym] 32 (0, 0)) → w'.cell? ⟨wr.heap.size, 1, none⟩ = some (.string (S yt)) ∧ w'.cell? ⟨wr.heap.size, 2, none⟩ = some (.int .i64 ym)) := Lib.hid fun w' hf => ⟨cellOf hf rfl, cellOf hf rfl⟩
      have HA0 : Hid ((wr.alloc (.cells #[.int .i64 yk, .string (S yt), .int .i64 ym] 32)).drew.heap[wr.heap.size]? = some (.cells #[.int .i64 yk, .string (S yt), .int .i64 ym] 32 (0, 0))) := Lib.hid ((Fr.drew _).heap (heap_alloc_new wr _))
      have HYD := Lib.hid (HY.out _ HA0.out)
      go_region_held_law (fun w' => w'.cell? ⟨wr.heap.size, 1, none⟩ = some (.string (S yt)) ∧ w'.cell? ⟨wr.heap.size, 2, none⟩ = some (.int .i64 ym))
        (first | exact HY.out _ HA3.out | exact HY.out _ HA2.out | exact HY.out _ HA1.out | exact HYD.out)
        (first
          | (go_at_call 53; refine (HJ3.out.str (m1 ++ m2) (by have := HL1.out; have := HL2.out; have := HL3.out; have := HL4.out; have := HFL.out; simp only [List.length_append]; omega)).mono ?_; rintro e w7 ⟨rfl, hb, hk⟩; have HJ4 := Lib.hid hb; have HA3 := Lib.hid (hk _ _ _ _ hYne HA2.out (by decide)); clear hb hk)
          | (go_at_call 37; refine (HN4.out _ HJ2.out.2).mono ?_; rintro e w6 ⟨rfl, hf⟩; have HJ3 := Lib.hid (HJ2.out.fr hf); have HA2 := Lib.hid (hf.heap HA1.out); clear hf)
          | (go_at_call 36; refine (HN3.out _ HJ1.out.2).mono ?_; rintro e w5 ⟨rfl, hf⟩; have HJ2 := Lib.hid (HJ1.out.fr hf); have HA1 := Lib.hid (hf.heap HA0.out); clear hf))
      all_goals
        go_wp2_with fail
        go_roundw
        case rel => exact ⟨j + 1, by omega, by go_num, Lib.hid (by rw [HFT.out, ← List.append_assoc]; exact HJ4.out)⟩
        case measure => simp [intOf]; omega
    · have he : j = l.length := by omega
      subst he
      rw [List.take_length, ← HBY.out] at HJ
      go_wp2_with (go_at_call 54; refine HJ.out.string.mono ?_; rintro e wz ⟨rfl, hf⟩)
      go_ret
      exact ⟨rfl, hf⟩
end
end Go.Proofs.YtapdabebiinnnaaGreatDoor
namespace Go.Proofs.YtapdabebiinnnaaGreatDoor
open Go.RowKit Go.MapKept Go.Maps Go.WideMaps

/-- What has been accepted of the first n of a list. -/
noncomputable def lv (q : List Sd) (k : Int) (ss : List Sg) (n : Nat) : List Sg := (ss.take n).foldl (acl q k) []
theorem lv_zero (q : List Sd) (k : Int) (ss : List Sg) : lv q k ss 0 = [] := rfl
theorem lv_succ (q : List Sd) (k : Int) {ss : List Sg} {n : Nat} (h : n < ss.length) : lv q k ss (n + 1) = acl q k (lv q k ss n) ss[n] := by
  unfold lv
  rw [List.take_succ_eq_append_getElem h, List.foldl_append]; rfl
theorem lv_ok {q : List Sd} (k : Int) (hq : q.Nodup) (ss : List Sg) : ∀ n, n ≤ ss.length → LOk q k (lv q k ss n) ∧ (lv q k ss n).length ≤ n := by
  intro n
  induction n with
  | zero => intro _; exact ⟨LOk.nil _ _, Nat.le_refl _⟩
  | succ n ih =>
    intro h
    obtain ⟨h1, h2⟩ := ih (by omega)
    rw [lv_succ q k (by omega)]
    have := h1.acl hq ss[n]
    exact ⟨this.1, by omega⟩
theorem sl_bounds {l : List Sy} (hf : FewY l) : ∀ s ∈ sl l, (0 ≤ s.1 ∧ s.1 ≤ 1000000001) ∧ s.2.1.length ≤ 1000000001 ∧ (0 ≤ s.2.2 ∧ s.2.2 ≤ 1000000001) := by
  intro s hs
  unfold sl at hs
  obtain ⟨x, hx, rfl⟩ := List.mem_map.1 hs
  have hw := wo_len (hf.2 x hx).1
  have hb : (0 ≤ (zz (l.map sdOf) (sdOf x)).1 ∧ (zz (l.map sdOf) (sdOf x)).1 ≤ 1000000000) ∧ (zz (l.map sdOf) (sdOf x)).2.1.length ≤ 1000000000 ∧ (0 ≤ (zz (l.map sdOf) (sdOf x)).2.2 ∧ (zz (l.map sdOf) (sdOf x)).2.2 ≤ 1000000000) := by
    unfold zz
    split
    · rename_i h
      have h1 := h.1
      have h2 := h.2
      have h3 := px_le (l.map sdOf) (sdOf x)
      rw [List.length_map] at h3
      have h4 := hf.1
      unfold sgOf
      simp only
      refine ⟨⟨h1, by omega⟩, ?_, by omega, by omega⟩
      show (wo x).length ≤ _
      omega
    · simp
  generalize zz (l.map sdOf) (sdOf x) = z at *
  obtain ⟨a, t, m⟩ := z
  simp only at hb
  unfold tn
  repeat' split
  all_goals simp only [List.length_append, List.length_cons, List.length_nil]; omega
theorem sl_gok {l : List Sy} (hf : FewY l) {s : Sg} (hs : s ∈ sl l) : GOk s := by
  have := sl_bounds hf s hs
  refine ⟨⟨by omega, by omega⟩, by omega, ⟨by omega, by omega⟩⟩
theorem sl_len (l : List Sy) : (sl l).length = l.length := by unfold sl; rw [List.length_map]
theorem qs_nd (l : List Sy) : (qs l).Nodup := SL_nodup _
theorem qs_len (l : List Sy) : (qs l).length ≤ l.length := by have := SL_len (l.map sdOf); rw [List.length_map] at this; exact this

def rdF' (o : Option C) : Int := if o.isSome then 0 else 2
theorem rdF'_some (c : C) : rdF' (some c) = 0 := rfl
theorem readV_eq (o : Option C) : readV o = .tuple #[.agg #[.int .i64 (o.getD zeroC).k, .int .i64 (o.getD zeroC).n, .int .i64 (o.getD zeroC).t, .string (S (o.getD zeroC).s)], .int .i64 (rdF' o)] := by
  cases o <;> rfl
theorem clV_eq (o : Option Sg) : clV o = .tuple #[.agg #[.int .i64 (o.getD (0, [], 0)).1, .string (S (o.getD (0, [], 0)).2.1), .int .i64 (o.getD (0, [], 0)).2.2], .bool o.isSome] := by
  cases o <;> rfl
/-- A claim of a log, signed by the key. -/
noncomputable def mnB (q : List Sd) (k : Int) (s : Sg) : Bool := holds q s && decide (s.1 = k) && (match readC s.2.1 with | none => false | some c => decide (c.k ≤ 2))
section
variable {q : List Sd} {k : Int} {l : List Sg} {s : Sg}
theorem clR_some {x : Sg} (h : clR l s = some x) : x ∈ l ∧ ∃ c, readC s.2.1 = some c ∧ contra (clm x.2.1) c = true := by
  unfold clR at h
  cases hr : readC s.2.1 with
  | none => rw [hr] at h; exact absurd h (by simp)
  | some c =>
    rw [hr] at h
    simp only at h
    unfold clO at h
    exact ⟨List.mem_of_find?_eq_some h, c, rfl, by simpa using List.find?_some h⟩
theorem mn_yes (h : LOk q k l) (hq : q.Nodup) (hm : mnB q k s = true) : (aE q k l s = 0 ∧ clR l s = none) ∨ (aE q k l s = 21 ∧ acl q k l s = l ∧ ∃ x, clR l s = some x) := by
  unfold mnB at hm
  simp only [Bool.and_eq_true, decide_eq_true_eq] at hm
  obtain ⟨⟨h1, h2⟩, h3⟩ := hm
  cases hr : readC s.2.1 with
  | none => rw [hr] at h3; exact absurd h3 (by simp)
  | some c =>
    rw [hr] at h3
    have h4 : c.k ≤ 2 := by simpa using h3
    have hcl := readC_clm hr
    cases hb : (l.any fun a => contra (clm a.2.1) c) with
    | false =>
      refine .inl ⟨(aE_zero h hq s).2 ⟨h1, h2, ⟨c, hr, h4⟩, fun a ha => ?_⟩, ?_⟩
      · rw [hcl]
        rw [List.any_eq_false] at hb
        simpa using hb a ha
      · unfold clR; rw [hr]; exact clO_none hb
    | true =>
      have he := aE_split h hq h1 h2 hr h4 hb
      refine .inr ⟨he, acl_bad h hq (fun hg => ?_), ?_⟩
      · rw [(aE_zero h hq s).2 hg] at he; exact absurd he (by decide)
      · unfold clR; rw [hr]
        cases ho : clO l c with
        | some x => exact ⟨x, ho⟩
        | none =>
          unfold clO at ho
          rw [List.find?_eq_none] at ho
          obtain ⟨a, ha, hc⟩ := List.any_eq_true.1 hb
          exact absurd hc (ho a ha)
theorem mn_no (h : LOk q k l) (hq : q.Nodup) (hm : mnB q k s = false) : aE q k l s ≠ 0 ∧ aE q k l s ≠ 21 ∧ acl q k l s = l := by
  have hg : ¬ Good q k l s := fun ⟨h1, h2, ⟨c, h3, h4⟩, _⟩ => by
    unfold mnB at hm
    rw [h1, decide_eq_true h2, h3] at hm
    simp only [Bool.true_and, decide_eq_false_iff_not] at hm
    exact hm h4
  refine ⟨fun e => hg ((aE_zero h hq s).1 e), ?_, acl_bad h hq hg⟩
  unfold mnB at hm
  unfold aE accE
  cases hh : holds q s with
  | false => simp
  | true =>
    rw [hh] at hm
    by_cases hk : s.1 = k
    · cases hr : readC s.2.1 with
      | none => simp [hk]
      | some c =>
        rw [hr, decide_eq_true hk] at hm
        have h4 : ¬ c.k ≤ 2 := by simpa using hm
        simp [hk, h4]
    · simp [hk]
end
end Go.Proofs.YtapdabebiinnnaaGreatDoor
namespace Go.Proofs.YtapdabebiinnnaaGreatDoor

/-- What the loop has come to: what is left, whether a read has failed, and what was read. -/
structure PS where
  r : Txt
  f : Bool
  l : List Sg
theorem PS.ext' {a b : PS} (h1 : a.r = b.r) (h2 : a.f = b.f) (h3 : a.l = b.l) : a = b := by cases a; cases b; simp_all
noncomputable def pky (s : Txt) : Int := rdV (Wm.numE 59) 0 s
noncomputable def pnn (s : Txt) : Int := rdV (Wm.numE 59) 0 (rd1 s)
noncomputable def pMk (r : Txt) : Int := rdV (Wm.numE 59) 0 r
noncomputable def pR1 (r : Txt) : Txt := rdR (Wm.numE 59) r
noncomputable def pTx (r : Txt) : Txt := rdV Wm.textE [] (pR1 r)
noncomputable def pR2 (r : Txt) : Txt := rdR Wm.textE (pR1 r)
noncomputable def pF2 (r : Txt) (f : Bool) : Bool := rdF Wm.textE (pR1 r) (rdF (Wm.numE 59) r f)
noncomputable def pstep (k : Int) (p : PS) : PS := if p.r = [] then p else ⟨pR2 p.r, pF2 p.r p.f, p.l ++ [(k, pTx p.r, pMk p.r)]⟩
noncomputable def pst (s : Txt) : Nat → PS
  | 0 => ⟨rd2 s, rdF (Wm.numE 59) (rd1 s) (rdF (Wm.numE 59) s false), []⟩
  | n + 1 => pstep (pky s) (pst s n)
/-- What all of it is read as. -/
noncomputable def fin (s : Txt) : PS := pst s s.length
noncomputable def okP (s : Txt) : Bool := decide (((fin s).l.length : Int) = pnn s) && !(fin s).f

theorem pR1_len (r : Txt) : (pR1 r).length ≤ r.length := rd_len _ _
theorem pR1_lt {r : Txt} (h : r ≠ []) : (pR1 r).length < r.length := by
  have hp : 0 < r.length := List.length_pos_iff.2 h
  cases hb : rdF (Wm.numE 59) r false with
  | false =>
    obtain ⟨_, h2, h3⟩ := rd_ok (z := 0) hb
    have h4 := congrArg List.length h3
    rw [List.length_append] at h4
    have h5 : 0 < ((Wm.numE 59).f (rdV (Wm.numE 59) 0 r)).length := by rw [Wm.numE_f]; simp
    unfold pR1
    omega
  | true =>
    unfold pR1 rdR
    unfold rdF at hb
    cases ho : Wm.parse (Wm.numE 59) r with
    | none => simpa using hp
    | some x => rw [ho] at hb; exact absurd hb (by simp)
theorem pR2_lt {r : Txt} (h : r ≠ []) : (pR2 r).length < r.length := Nat.lt_of_le_of_lt (rd_len _ _) (pR1_lt h)
theorem pst_len (s : Txt) (n : Nat) : (pst s n).r = [] ∨ ((pst s n).r.length + n ≤ s.length ∧ (pst s n).l.length = n) := by
  induction n with
  | zero => exact .inr ⟨Nat.le_trans (rd_len _ _) (rd_len _ _), rfl⟩
  | succ n ih =>
    rcases ih with h | ⟨h1, h2⟩
    · left
      show (pstep _ _).r = []
      unfold pstep
      rw [if_pos h]; exact h
    · by_cases h : (pst s n).r = []
      · left
        show (pstep _ _).r = []
        unfold pstep
        rw [if_pos h]; exact h
      · right
        have h3 := pR2_lt h
        show (pstep _ _).r.length + (n + 1) ≤ _ ∧ (pstep _ _).l.length = _
        unfold pstep
        rw [if_neg h]
        exact ⟨by show (pR2 _).length + (n + 1) ≤ _; omega, by simp [h2]⟩
theorem pst_step {s : Txt} {n : Nat} (h : (pst s n).r ≠ []) : pst s (n + 1) = ⟨pR2 (pst s n).r, pF2 (pst s n).r (pst s n).f, (pst s n).l ++ [(pky s, pTx (pst s n).r, pMk (pst s n).r)]⟩ := by
  show pstep _ _ = _
  unfold pstep
  rw [if_neg h]
theorem pst_stay {s : Txt} {n : Nat} (h : (pst s n).r = []) (m : Nat) : pst s (n + m) = pst s n := by
  induction m with
  | zero => rfl
  | succ m ih =>
    show pstep _ (pst s (n + m)) = _
    rw [ih]
    unfold pstep
    rw [if_pos h]
theorem pst_end (s : Txt) : (fin s).r = [] := by
  rcases pst_len s s.length with h | ⟨h, _⟩
  · exact h
  · exact List.length_eq_zero_iff.1 (by unfold fin; omega)
theorem fin_eq {s : Txt} {n : Nat} (h : (pst s n).r = []) : pst s n = fin s := by
  rcases Nat.le_total n s.length with hn | hn
  · obtain ⟨m, hm⟩ := Nat.exists_eq_add_of_le hn
    unfold fin
    rw [hm, pst_stay h]
  · obtain ⟨m, hm⟩ := Nat.exists_eq_add_of_le hn
    rw [hm]
    exact pst_stay (pst_end s) m
theorem pst_mono (s : Txt) (n m : Nat) : (pst s n).l.length ≤ (pst s (n + m)).l.length := by
  induction m with
  | zero => exact Nat.le_refl _
  | succ m ih =>
    refine Nat.le_trans ih ?_
    show _ ≤ (pstep _ (pst s (n + m))).l.length
    unfold pstep
    split
    · exact Nat.le_refl _
    · simp
theorem pst_go {s : Txt} {n : Nat} (h : (pst s n).r ≠ []) : (pst s n).l.length = n ∧ n < s.length ∧ (pst s n).r.length ≤ s.length := by
  rcases pst_len s n with h1 | ⟨h1, h2⟩
  · exact absurd h1 h
  · have := List.length_pos_iff.2 h
    exact ⟨h2, by omega, by omega⟩
/-- The reference stops when it has as many as are stated. -/
theorem okP_ref {s : Txt} {n : Nat} (hl : (pst s n).l.length = n) (_hn : (n : Int) ≤ pnn s) (he : (n : Int) = pnn s ∨ (pst s n).r = []) :
    (decide ((n : Int) = pnn s) && (!(pst s n).f && decide ((pst s n).r = []))) = okP s ∧ (okP s = true → (pst s n).l = (fin s).l) := by
  by_cases h : (pst s n).r = []
  · have e := fin_eq h
    have hl' : (fin s).l.length = n := by rw [← e]; exact hl
    refine ⟨?_, fun _ => by rw [e]⟩
    unfold okP
    rw [hl', e, pst_end, decide_eq_true (rfl : ([] : Txt) = []), Bool.and_true]
  · obtain ⟨_, h2, _⟩ := pst_go h
    have h3 : (pst s (n + 1)).l.length = n + 1 := by rw [pst_step h]; simp [hl]
    obtain ⟨m, hm⟩ := Nat.exists_eq_add_of_le (show n + 1 ≤ s.length by omega)
    have h4 := pst_mono s (n + 1) m
    rw [← hm, h3] at h4
    have h5 : ¬ (((fin s).l.length : Int) = pnn s) := by
      have h6 : n + 1 ≤ (fin s).l.length := h4
      rcases he with he | he
      · omega
      · exact absurd he h
    have e : okP s = false := by unfold okP; rw [decide_eq_false h5]; rfl
    rw [e, decide_eq_false h, Bool.and_false, Bool.and_false]
    exact ⟨rfl, fun h => absurd h (by simp)⟩
theorem pst_ok {s : Txt} (hs : s.length ≤ 1000000) (n : Nat) : ∀ x ∈ (pst s n).l, x.1 = pky s ∧ GOk x := by
  induction n with
  | zero => intro x hx; simp [pst] at hx
  | succ n ih =>
    by_cases h : (pst s n).r = []
    · have : pst s (n + 1) = pst s n := pst_stay h 1
      rw [this]; exact ih
    · obtain ⟨_, _, h3⟩ := pst_go h
      rw [pst_step h]
      intro x hx
      rcases List.mem_append.1 hx with hx | hx
      · exact ih x hx
      · simp only [List.mem_singleton] at hx
        subst hx
        refine ⟨rfl, (rd_in s).int, ?_, (rd_in (pst s n).r).int⟩
        have h1 := rd_txt (pR1 (pst s n).r)
        have h2 := pR1_len (pst s n).r
        show (pTx _).length ≤ _
        unfold pTx
        omega

/-! ### The bytes of a view -/
theorem num59 : ¬ Wm.isNum 59 := by decide
theorem WOk.mk {s : Sg} (h : (0 ≤ s.2.2 ∧ s.2.2 ≤ 9223372036854775807) ∧ s.2.1.length ≤ 20100) : (Wm.numE 59).dom s.2.2 ∧ Wm.textE.dom s.2.1 := by
  refine ⟨?_, ?_⟩
  · exact h.1
  · show _ ≤ _
    omega
theorem sgE_read {s : Sg} (h : (0 ≤ s.2.2 ∧ s.2.2 ≤ 9223372036854775807) ∧ s.2.1.length ≤ 20100) (q : Txt) (f : Bool) : pMk (sgE s ++ q) = s.2.2 ∧ pTx (sgE s ++ q) = s.2.1 ∧ pR2 (sgE s ++ q) = q ∧ pF2 (sgE s ++ q) f = f := by
  obtain ⟨h1, h2⟩ := WOk.mk h
  have e : sgE s ++ q = (Wm.numE 59).f s.2.2 ++ (Wm.textE.f s.2.1 ++ q) := by unfold sgE; rw [List.append_assoc]
  rw [e]
  obtain ⟨a1, a2, a3⟩ := rd_good 0 (Wm.numE_pf num59) (r := Wm.textE.f s.2.1 ++ q) h1 f
  obtain ⟨b1, b2, b3⟩ := rd_good [] Wm.textE_pf (r := q) h2 f
  refine ⟨a1, ?_, ?_, ?_⟩
  · unfold pTx pR1; rw [a2, b1]
  · unfold pR2 pR1; rw [a2, b2]
  · unfold pF2 pR1; rw [a2, a3, b3]
theorem sgE_ne (s : Sg) (q : Txt) : sgE s ++ q ≠ [] := by
  unfold sgE
  rw [Wm.numE_f]; simp
theorem by_key {k : Int} {l : List Sg} (hk : 0 ≤ k ∧ k ≤ 9223372036854775807) (hl : l.length ≤ 1000000) (z : Txt) :
    pky (byT k l ++ z) = k ∧ pnn (byT k l ++ z) = l.length ∧ rd2 (byT k l ++ z) = l.flatMap sgE ++ z ∧ rdF (Wm.numE 59) (rd1 (byT k l ++ z)) (rdF (Wm.numE 59) (byT k l ++ z) false) = false := by
  have e : byT k l ++ z = (Wm.numE 59).f k ++ ((Wm.numE 59).f (l.length : Int) ++ (l.flatMap sgE ++ z)) := by unfold byT; simp only [List.append_assoc]
  have hd : (Wm.numE 59).dom (l.length : Int) := ⟨by omega, by omega⟩
  have hk' : (Wm.numE 59).dom k := hk
  rw [e]
  obtain ⟨a1, a2, a3⟩ := rd_good 0 (Wm.numE_pf num59) (r := (Wm.numE 59).f (l.length : Int) ++ (l.flatMap sgE ++ z)) hk' false
  obtain ⟨b1, b2, b3⟩ := rd_good 0 (Wm.numE_pf num59) (r := l.flatMap sgE ++ z) hd false
  refine ⟨a1, ?_, ?_, ?_⟩
  · unfold pnn rd1; rw [a2, b1]
  · unfold rd2 rd1; rw [a2, b2]
  · unfold rd1; rw [a2, a3, b3]
theorem by_pst {k : Int} {l : List Sg} (hk : 0 ≤ k ∧ k ≤ 9223372036854775807) (hl : l.length ≤ 1000000) (hw : WOk l) (hy : ∀ s ∈ l, s.1 = k) (z : Txt) (n : Nat) (hn : n ≤ l.length) :
    pst (byT k l ++ z) n = ⟨(l.drop n).flatMap sgE ++ z, false, l.take n⟩ := by
  obtain ⟨e1, _, e3, e4⟩ := by_key hk hl z
  induction n with
  | zero => show PS.mk _ _ _ = _; rw [e3, e4]; simp
  | succ n ih =>
    have h := ih (by omega)
    have hd : (l.drop n).flatMap sgE ++ z = sgE l[n] ++ ((l.drop (n + 1)).flatMap sgE ++ z) := by
      rw [List.drop_eq_getElem_cons (by omega), List.flatMap_cons, List.append_assoc]
    obtain ⟨a1, a2, a3, a4⟩ := sgE_read (hw _ (List.getElem_mem (show n < l.length by omega))) ((l.drop (n + 1)).flatMap sgE ++ z) false
    have hr : (pst (byT k l ++ z) n).r = sgE l[n] ++ ((l.drop (n + 1)).flatMap sgE ++ z) := by rw [h]; exact hd
    have hne : (pst (byT k l ++ z) n).r ≠ [] := by rw [hr]; exact sgE_ne _ _
    rw [pst_step hne, hr, a1, a2, a3, e1]
    have hf : (pst (byT k l ++ z) n).f = false := by rw [h]
    have hl' : (pst (byT k l ++ z) n).l = l.take n := by rw [h]
    rw [hf, a4, hl', List.take_succ_eq_append_getElem (show n < l.length by omega)]
    refine PS.ext' rfl rfl ?_
    have h9 := hy _ (List.getElem_mem (show n < l.length by omega))
    exact congrArg (fun x => l.take n ++ [x]) (Prod.ext h9.symm rfl)
theorem by_fin {k : Int} {l : List Sg} (hk : 0 ≤ k ∧ k ≤ 9223372036854775807) (hl : l.length ≤ 1000000) (hw : WOk l) (hy : ∀ s ∈ l, s.1 = k) :
    pky (byT k l) = k ∧ fin (byT k l) = ⟨[], false, l⟩ ∧ okP (byT k l) = true := by
  have h := by_pst hk hl hw hy [] l.length (Nat.le_refl _)
  have hkk := by_key hk hl (l := l) []
  simp only [List.append_nil] at h hkk
  rw [List.drop_length, List.take_length] at h
  have hf : fin (byT k l) = ⟨[], false, l⟩ := by rw [← fin_eq (n := l.length) (by rw [h]; rfl), h]; rfl
  refine ⟨hkk.1, hf, ?_⟩
  unfold okP
  rw [hf, hkk.2.1]
  simp
theorem by_more {k : Int} {l : List Sg} (hk : 0 ≤ k ∧ k ≤ 9223372036854775807) (hl : l.length ≤ 1000000) (hw : WOk l) (hy : ∀ s ∈ l, s.1 = k) :
    okP (byT k l ++ [48, 59]) = false ∧ (fin (byT k l ++ [48, 59])).l.length = l.length + 1 := by
  have h := by_pst hk hl hw hy [48, 59] l.length (Nat.le_refl _)
  rw [List.drop_length, List.take_length, List.flatMap_nil, List.nil_append] at h
  have hd : (Wm.numE 59).dom 0 := ⟨by omega, by omega⟩
  have e0 : (Wm.numE 59).f 0 ++ [] = ([48, 59] : Txt) := by
    have : (Wm.numE 59).f 0 = [48, 59] := by rw [Wm.numE_f]; simp [Lib.itoa, Lib.decDigits]
    rw [this]; rfl
  obtain ⟨_, a2, a3⟩ := rd_good 0 (Wm.numE_pf num59) (r := ([] : Txt)) hd false
  have hbad : ∀ v q, Wm.textE.dom v → ([] : Txt) ≠ Wm.textE.f v ++ q := fun v q _ e => by
    have := congrArg List.length e
    rw [Wm.textE_f] at this
    simp at this
  obtain ⟨_, b2, b3⟩ := rd_bad (E := Wm.textE) [] hbad false
  rw [e0] at a2 a3
  have hne : (pst (byT k l ++ [48, 59]) l.length).r ≠ [] := by rw [h]; simp
  have hs := pst_step hne
  rw [h] at hs
  have hr : (pst (byT k l ++ [48, 59]) (l.length + 1)).r = [] := by
    rw [hs]; show pR2 _ = _; unfold pR2 pR1; rw [a2, b2]
  have hf : (fin (byT k l ++ [48, 59])).f = true := by
    rw [← fin_eq hr, hs]; show pF2 _ _ = _; unfold pF2 pR1; rw [a2, a3, b3]
  refine ⟨?_, ?_⟩
  · unfold okP; rw [hf]; simp
  · rw [← fin_eq hr, hs]; simp
theorem by_inj {k : Int} {l m : List Sg} (hk : 0 ≤ k ∧ k ≤ 9223372036854775807) (hl : l.length ≤ 1000000) (hm : m.length ≤ 1000000) (hwl : WOk l) (hwm : WOk m) (hyl : ∀ s ∈ l, s.1 = k) (hym : ∀ s ∈ m, s.1 = k) (h : byT k l = byT k m) : l = m := by
  have h1 := (by_fin hk hl hwl hyl).2.1
  have h2 := (by_fin hk hm hwm hym).2.1
  rw [h, h2] at h1
  injection h1 with _ _ h3
  exact h3.symm

/-! ### Accepting all of them -/
/-- The error of Read, of the rest of the claims, once these are accepted. -/
noncomputable def rE (q : List Sd) (k : Int) : List Sg → List Sg → Int
  | _, [] => 0
  | d, c :: cs => if c ∈ d then 5 else if aE q k d c ≠ 0 then aE q k d c else rE q k (d ++ [c]) cs
/-- What Read returns as an error; and the list of what it has accepted, if there is none. -/
noncomputable def rdE (q : List Sd) (s : Txt) : Int := if IsKey (pky s) ∧ okP s = true then rE q (pky s) [] (fin s).l else 2
section
variable {q : List Sd} {k : Int} {l : List Sg} {s : Sg}
/-- One round. -/
theorem rE_round (h : LOk q k l) (hq : q.Nodup) (cs : List Sg) :
    (aE q k l s ≠ 0 ∧ rE q k l (s :: cs) = aE q k l s) ∨ (aE q k l s = 0 ∧ (acl q k l s).length = l.length ∧ rE q k l (s :: cs) = 5) ∨
    (aE q k l s = 0 ∧ acl q k l s = l ++ [s] ∧ LOk q k (l ++ [s]) ∧ rE q k l (s :: cs) = rE q k (l ++ [s]) cs) := by
  by_cases hm : s ∈ l
  · right; left
    have hg : Good q k l s := ⟨h.val s hm, h.key s hm, (by obtain ⟨h1, h2⟩ := h.log s hm; exact ⟨_, h1, h2⟩), fun a ha => h.con a ha s hm⟩
    exact ⟨(aE_zero h hq s).2 hg, by rw [acl_old h hq fun _ => hm], by rw [rE, if_pos hm]⟩
  · by_cases he : aE q k l s = 0
    · right; right
      have hg := (aE_zero h hq s).1 he
      exact ⟨he, acl_new h hq hg hm, hg.add h hm, by rw [rE, if_neg hm, if_neg (by simpa using he)]⟩
    · left
      exact ⟨he, by rw [rE, if_neg hm, if_pos he]⟩
theorem rE_all (h : LOk q k l) (hq : q.Nodup) : ∀ n, n ≤ l.length → rE q k (l.take n) (l.drop n) = 0 := by
  intro n
  generalize hm : l.length - n = m
  induction m generalizing n with
  | zero => intro hn; rw [List.drop_eq_nil_of_le (by omega), rE]
  | succ m ih =>
    intro hn
    have hlt : n < l.length := by omega
    have hmem := List.getElem_mem hlt
    have hni : l[n] ∉ l.take n := fun hc => by
      obtain ⟨j, hj, e⟩ := List.mem_iff_getElem.1 hc
      rw [List.getElem_take] at e
      have := (List.getElem_inj h.nd).1 e
      rw [List.length_take] at hj; omega
    have hL : LOk q k (l.take n) := by
      refine ⟨fun s hs => h.val s (List.mem_of_mem_take hs), fun s hs => h.key s (List.mem_of_mem_take hs), fun s hs => h.log s (List.mem_of_mem_take hs), ?_, fun a ha b hb => h.con a (List.mem_of_mem_take ha) b (List.mem_of_mem_take hb)⟩
      exact h.nd.sublist (List.take_sublist _ _)
    have hg : Good q k (l.take n) l[n] := ⟨h.val _ hmem, h.key _ hmem, (by obtain ⟨h1, h2⟩ := h.log _ hmem; exact ⟨_, h1, h2⟩), fun a ha => h.con a (List.mem_of_mem_take ha) _ hmem⟩
    have he := (aE_zero hL hq l[n]).2 hg
    rw [List.drop_eq_getElem_cons hlt, rE, if_neg hni, if_neg (by simpa using he), ← List.take_succ_eq_append_getElem hlt]
    exact ih (n + 1) (by omega) (by omega)
end
end Go.Proofs.YtapdabebiinnnaaGreatDoor
namespace Go.Proofs.YtapdabebiinnnaaGreatDoor
open Go.RowKit Go.MapKept Go.Maps Go.WideMaps

/-- A reader. -/
def RdT (B : Nat) (r : Txt) (f : Bool) : Thing := BoxT 125 B #[.string (S r), .bool f]
section
variable {W w w' : World} {B : Nat} {r r' : Txt} {f f' : Bool} {U : Thing}
theorem Has.rd (h : Has W w ((RdT B r f).sep U)) : Rd 125 B r f w := h.boxed
theorem Has.rstep (h : Has W w ((RdT B r f).sep U)) (hr : Rd 125 B r' f' w') (hf : FrB B w w') : Has W w' ((RdT B r' f').sep U) := by
  obtain ⟨O, hT, _, hb⟩ := h.open
  exact hb _ _ ⟨O, ⟨hr, hT.2⟩, fun _ h => .inl h, (Own.refl O w).grown hf fun p hp => .inl ((hT.2 p).2 (Option.some.inj hp).symm)⟩
theorem Has.ropen (h : Has W w U) (s : Txt) : Calls Tryz.prog 73 #[.string (S s)] w fun e w' => ∃ B, e = .returned (.pointer (some ⟨B, 0, none⟩)) ∧ Has W w' ((RdT B s false).sep U) := by
  refine (wopen_any s w).mono ?_
  rintro e w' ⟨rfl, hr, hf⟩
  exact ⟨_, rfl, h.new ⟨fun k => k = w.heap.size, ⟨hr, fun _ => Iff.rfl⟩, fun k hk => .inr (by subst hk; exact ⟨Nat.le_refl _, hr.lt⟩), .of_fr hf⟩⟩
theorem Has.rNum (h : Has W w ((RdT B r f).sep U)) (hr : r.length ≤ 1000000) : Calls Tryz.prog 74 #[.pointer (some ⟨B, 0, none⟩)] w fun e w' => e = .returned (.int .i64 (rdV (Wm.numE 59) 0 r)) ∧ Has W w' ((RdT B (rdR (Wm.numE 59) r) (rdF (Wm.numE 59) r f)).sep U) := by
  refine (rNum_det h.rd (by omega)).mono ?_
  rintro e w' ⟨rfl, h1, h2⟩
  exact ⟨rfl, h.rstep h1 h2⟩
theorem Has.rText (h : Has W w ((RdT B r f).sep U)) (hr : r.length ≤ 1000000) : Calls Tryz.prog 75 #[.pointer (some ⟨B, 0, none⟩)] w fun e w' => e = .returned (.string (S (rdV Wm.textE [] r))) ∧ Has W w' ((RdT B (rdR Wm.textE r) (rdF Wm.textE r f)).sep U) := by
  refine (rText_det h.rd (by omega)).mono ?_
  rintro e w' ⟨rfl, h1, h2⟩
  exact ⟨rfl, h.rstep h1 h2⟩
end

def lenOf : Value → Nat
  | .slice _ n _ => n
  | _ => 0
set_option maxHeartbeats 1000000 in
set_option maxRecDepth 100000 in
theorem parse_any (s : Txt) (w : World) (hs : s.length ≤ 1000000) :
    Calls Tryz.prog 57 #[.string (S s)] w fun e w' => ∃ a c, e = .returned (.tuple #[.int .i64 (pky s), .slice a (fin s).l.length c, .bool (okP s)]) ∧ Has w w' ((RowT 32 3 (.slice a (fin s).l.length c) (fin s).l.length (sgC (fin s).l)).sep .emp) := by
  obtain ⟨i0, hi, hz0, hz1, hz2⟩ := info_parts infoSg
  have HIN := Lib.hid hi
  have HR1 := Lib.hid (show (rd1 s).length ≤ 1000000 from Nat.le_trans (rd_len _ _) hs)
  have HS := Lib.hid hs
  have HP0 := Lib.hid (show pst s 0 = ⟨rd2 s, rdF (Wm.numE 59) (rd1 s) (rdF (Wm.numE 59) s false), []⟩ from rfl)
  have HPE := Lib.hid (fun n h => fin_eq (s := s) (n := n) h)
  have HPS := Lib.hid (fun n h => pst_step (s := s) (n := n) h)
  have HPG := Lib.hid (fun n h => pst_go (s := s) (n := n) h)
  have HOK := Lib.hid (show okP s = (decide (((fin s).l.length : Int) = pnn s) && !(fin s).f) from rfl)
  have HFE := Lib.hid (pst_end s)
  have HKY := Lib.hid (show rdV (Wm.numE 59) 0 s = pky s from rfl)
  have HNN := Lib.hid (show rdV (Wm.numE 59) 0 (rd1 s) = pnn s from rfl)
  obtain ⟨key, hkey⟩ : ∃ key, key = pky s := ⟨_, rfl⟩
  obtain ⟨ll, hll⟩ : ∃ ll, ll = (fin s).l := ⟨_, rfl⟩
  obtain ⟨ok, hok⟩ : ∃ ok, ok = okP s := ⟨_, rfl⟩
  rw [← hkey] at HKY ⊢
  simp only [← hkey] at HPS
  rw [← hll] at HOK ⊢
  rw [← hok] at HOK ⊢
  have HLL := Lib.hid hll
  clear hi hs hkey hll hok
  go_enter Tryz.func57, Tryz.ntmps57
  go_upto_region 2 with (go_at_call 73; refine ((Has.here w).ropen s).mono ?_; rintro e w1 ⟨B, rfl, h1⟩)
  go_wp2_with fail
  refine (h1.rNum HS.out).mono ?_
  rw [HKY.out]
  rintro e w2 ⟨rfl, h2⟩
  replace h2 : Has w w2 ((RdT B (rd1 s) (rdF (Wm.numE 59) s false)).sep .emp) := h2
  go_wp2_with fail
  refine (h2.rNum HR1.out).mono ?_
  rw [HNN.out]
  rintro e w3 ⟨rfl, h3⟩
  have H0 : Hid (Has w w3 ((RowT 32 3 (.slice none 0 0) (pst s 0).l.length (sgC (pst s 0).l)).sep ((RdT B (pst s 0).r (pst s 0).f).sep .emp))) := Lib.hid (h3.nilRow 32 3)
  clear h1 h2 h3 HR1
  generalize pnn s = nn at *
  go_wp2_with fail
  go_loopw [8] (fun cv wr => ∃ (j : Nat) (a0 : Option Addr) (c0 : Nat), cv = .slice a0 (pst s j).l.length c0 ∧ Hid (Has w wr ((RowT 32 3 (.slice a0 (pst s j).l.length c0) (pst s j).l.length (sgC (pst s j).l)).sep ((RdT B (pst s j).r (pst s j).f).sep .emp)))) (fun cv _ => s.length - lenOf cv)
  case atStart => exact ⟨0, none, 0, rfl, H0⟩
  case round =>
    obtain ⟨j, a0, c0, rfl, HR⟩ := hrel
    clear H0
    have hrd := HR.out.turn.rd
    by_cases hne : (pst s j).r = []
    · have he := HPE.out j hne
      rw [he] at HR hrd ⊢
      rw [HFE.out] at hrd
      have HLE := Lib.hid (left_any hrd)
      have HDO := Lib.hid (done_any hrd)
      obtain ⟨fl, hfl⟩ : ∃ fl, fl = (fin s).f := ⟨_, rfl⟩
      rw [← hfl] at HDO HOK
      rw [← HLL.out] at HR ⊢
      rw [decide_eq_true (rfl : ([] : Txt) = []), Bool.and_true] at HDO
      clear he hne hrd HPE HPS HPG HFE hfl
      go_upto_region 6 with (go_at_call 89; refine HLE.out.mono ?_; rintro e w5 ⟨rfl, rfl⟩)
      by_cases hln : (ll.length : Int) = nn
      · rw [decide_eq_true hln, Bool.true_and] at HOK
        rw [← HOK.out] at HDO
        go_wp2_with (go_at_call 76; refine HDO.out.mono ?_; rintro e w6 ⟨rfl, rfl⟩)
        go_ret3
        exact ⟨a0, c0, rfl, HR.out.turn.right⟩
      · rw [decide_eq_false hln, Bool.false_and] at HOK
        obtain rfl : ok = false := HOK.out
        go_wp2_with fail
        go_ret3
        exact ⟨a0, c0, rfl, HR.out.turn.right⟩
    · obtain ⟨hj1, hj2, hj3⟩ := HPG.out j hne
      have HST := Lib.hid (HPS.out j hne)
      have hlen : 0 < (pst s j).r.length := List.length_pos_iff.2 hne
      have HLE := Lib.hid (left_any hrd)
      obtain ⟨r, hr⟩ : ∃ r, r = (pst s j).r := ⟨_, rfl⟩
      obtain ⟨f, hf⟩ : ∃ f, f = (pst s j).f := ⟨_, rfl⟩
      obtain ⟨l, hl⟩ : ∃ l, l = (pst s j).l := ⟨_, rfl⟩
      rw [← hr] at HST HR HLE hlen hj3
      rw [← hf] at HST HR
      rw [← hl] at HST HR hj1 ⊢
      have HRL := Lib.hid (show r.length ≤ 1000000 by have := HS.out; omega)
      have HRL1 := Lib.hid (show (pR1 r).length ≤ 1000000 by have := pR1_len r; have := HS.out; omega)
      have HLB := Lib.hid (show l.length + 1 ≤ 1000000 by have := HS.out; omega)
      have HLT := Lib.hid (show l.length < s.length by omega)
      clear hr hf hl hrd hne HPE HPS HPG HOK HFE hj1 hj2 hj3
      go_upto_region 5 with (go_at_call 89; refine HLE.out.mono ?_; rintro e w5 ⟨rfl, rfl⟩)
      go_wp2_with fail
      refine (HR.out.turn.rNum HRL.out).mono ?_
      rintro e w6 ⟨rfl, h6⟩
      replace h6 : Has w w6 ((RdT B (pR1 r) (rdF (Wm.numE 59) r f)).sep ((RowT 32 3 (.slice a0 l.length c0) l.length (sgC l)).sep .emp)) := h6
      go_wp2_with fail
      refine (h6.rText HRL1.out).mono ?_
      rintro e w7 ⟨rfl, h7⟩
      have H7 : Hid (Has w w7 ((RowT 32 3 (.slice a0 l.length c0) l.length (sgC l)).sep ((RdT B (pR2 r) (pF2 r f)).sep .emp))) := Lib.hid (Has.turn h7)
      obtain ⟨mk, hmk⟩ : ∃ mk, mk = pMk r := ⟨_, rfl⟩
      obtain ⟨tx, htx⟩ : ∃ tx, tx = pTx r := ⟨_, rfl⟩
      have e1 : rdV (Wm.numE 59) 0 r = mk := hmk.symm
      have e2 : rdV Wm.textE [] (pR1 r) = tx := htx.symm
      rw [← hmk, ← htx] at HST
      rw [e1, e2]
      clear hmk htx e1 e2 h6 h7 HR HLE
      go_wp2_with (at_builtin; refine wpList_app rfl _ _ 29 rfl 32 i0 (.agg #[.int .i64 0, .string (S []), .int .i64 0]) 3 32 Tryz.underlying29 HIN.out hz0 hz1 hz2 rfl (by decide) rfl H7.out 1 1 [.int .i64 key, .string (S tx), .int .i64 mk] rfl rfl (by simp [Value.oneCell']) (by decide) HLB.out (by decide) ?_; intro g1 cap1 w8 h8; have H8 := Lib.hid h8; clear h8)
      have HN : Hid (Has w w8 ((RowT 32 3 (.slice (some ⟨g1, 0, none⟩) (pst s (j + 1)).l.length cap1) (pst s (j + 1)).l.length (sgC (pst s (j + 1)).l)).sep ((RdT B (pst s (j + 1)).r (pst s (j + 1)).f).sep .emp))) := Lib.hid (by
        rw [HST.out]
        simp only [sgC_append, List.length_append, List.length_cons, List.length_nil]
        exact H8.out)
      have HL1 := Lib.hid (show (pst s (j + 1)).l.length = l.length + 1 by rw [HST.out]; simp)
      clear H7 H8 HST
      go_roundw
      case rel => exact ⟨j + 1, some ⟨g1, 0, none⟩, cap1, by rw [HL1.out], HN⟩
      case measure => have := HLT.out; simp [lenOf]; omega
end Go.Proofs.YtapdabebiinnnaaGreatDoor
