/-
  What the proofs of the rows share: the arguments opened (facts, numbers, lists of numbers).
-/
import Derived.Test.YtddeblcoglhdnaaRows
import Derived.Test.YtddeblcoglhdnaaKq
import Derived.Test.YtddeblcoglhdnaaLm
import Derived.ProofKit
import Derived.OpenShut
import Derived.Deep.DeepHandedRow
import Derived.Deep.Slices
import Derived.Deep.Fields
import Derived.ChangeSame
import Derived.SizedLaws
import Derived.Lib.SmallJoins
namespace Go.Proofs.Ytddeblcoglhdnaa
open Go.ChangeShapes Go.WideShapes Go.ChangeAt Go.RowKit Go.Joins Go.Deep
open Go.ChangeMaps (open_string)

theorem ownKnobNone : ownKnob Try.prog.godebug = none := by kernel_rfl
theorem laidOut : laidOutB Try.prog = true := by kernel_rfl
theorem cellsIntV : Try.prog.cellsOf 3 = 1 := by kernel_rfl
theorem cellsStrV : Try.prog.cellsOf 9 = 1 := by kernel_rfl
theorem cellsSlV : Try.prog.cellsOf 23 = 1 := by kernel_rfl
theorem cellsFact : Try.prog.cellsOf 39 = 29 := by kernel_rfl
theorem bytesFact : Try.prog.bytesOf 39 = 408 := by kernel_rfl
theorem bytesSl : Try.prog.bytesOf 23 = 24 := by kernel_rfl
theorem reach_eq : reachBytes = 140737488351232 := rfl

/-- A slice of ints that was read. -/
theorem ints_sl {H : Type} {enc : TypeId × Value → H} {W : World} {base fuel : Nat} {spare : Nat → Bool} {held : Bool} {v : Value} {x : DataW H × List MemPlace}
    (h : DataW.trod enc Try.prog W base spare held fuel 23 [v] = some x) : ∃ l : List Int, Sl W v l ∧ ∀ z ∈ l, -9223372036854775808 ≤ z ∧ z ≤ 9223372036854775807 := by
  rcases open_ints Try.underlying23 Try.underlying3 cellsIntV h with ⟨hcs, _⟩ | ⟨a, len, cap, zs, hcs, _, hl, hm, hz, _, hcell, hw⟩
  · obtain rfl : v = .slice none 0 0 := by simpa using hcs
    exact ⟨[], .inl ⟨rfl, _, _, rfl⟩, by simp⟩
  · obtain rfl : v = .slice (some a) len cap := by simpa using hcs
    have hlen : len ≤ zs.length := by rw [hz]; split <;> omega
    refine ⟨zs.take len, ?_, fun n hn => bounds_i64 (hw n (List.mem_of_mem_take hn))⟩
    rcases Nat.eq_zero_or_pos len with h0 | h0
    · subst h0; exact .inl ⟨by simp, _, _, rfl⟩
    · obtain ⟨b, o, rfl, hc⟩ := ints_at hcell (by omega)
      refine .inr ⟨b, o, cap, by rw [List.length_take, Nat.min_eq_left hlen], fun i hi => ?_, by rw [List.length_take]; omega⟩
      have hi' : i < len := by rw [List.length_take] at hi; omega
      rw [hc i (by omega), List.getElem_take]
      simp [List.getD, List.getElem?_eq_getElem (show i < zs.length by omega)]

/-! ### A fact that was read -/
section
variable {H : Type} {enc : TypeId × Value → H} {P : Program} {w : World} {base : Nat} {spare : Nat → Bool} {held : Bool}
/-- Types whose values are one cell that is neither a struct nor a tuple. -/
def flatB : Option TypeDesc → Bool
  | some .bool | some (.int _) | some .string | some (.slice _) => true
  | _ => false
theorem flat_one {t : TypeId} {n : Nat} {cs : List Value} {y : DataW H × List MemPlace} (hf : flatB (P.underlying t) = true) (h : DataW.trod enc P w base spare held n t cs = some y) : ∀ v ∈ cs, v.oneCell' = true := by
  cases n with
  | zero => simp [DataW.trod] at h
  | succ n =>
    unfold DataW.trod at h
    cases hu : P.underlying t with
    | none => rw [hu] at hf; cases hf
    | some d =>
      rw [hu] at h hf
      cases d <;> first
        | (simp [flatB] at hf; done)
        | (split at h <;> first
            | (simp_all; done)
            | (intro v hv; rw [List.mem_singleton] at hv; subst hv; rfl))
/-- All cells of the part from o on, c of them, are single ones. -/
def OneIn (cs : List Value) (o c : Nat) : Prop := ∀ v ∈ (cs.drop o).take c, v.oneCell' = true
theorem OneIn.at {cs : List Value} {o c : Nat} (h : OneIn cs o c) {i : Nat} (h1 : o ≤ i) (h2 : i < o + c) (hi : i < cs.length) : cs[i].oneCell' = true := by
  refine h _ ?_
  have hl : i - o < ((cs.drop o).take c).length := by rw [List.length_take, List.length_drop]; omega
  have := List.getElem_mem hl
  rw [List.getElem_take, List.getElem_drop] at this
  simpa only [show o + (i - o) = i by omega] using this
end
theorem field_of {fs : Array Field} {i : Nat} (h : i < fs.size) : fs[i]? = some fs[i] := Array.getElem?_eq_getElem h
/-- Whatever is read as a value of the type has single cells. -/
def Good (P : Program) (t : TypeId) : Prop := ∀ {H : Type} (enc : TypeId × Value → H) (w : World) (base : Nat) (spare : Nat → Bool) (held : Bool) (n : Nat) (cs : List Value) (y : DataW H × List MemPlace), DataW.trod enc P w base spare held n t cs = some y → ∀ v ∈ cs, v.oneCell' = true
theorem Good.flat {P : Program} {t : TypeId} (h : flatB (P.underlying t) = true) : Good P t := fun _ _ _ _ _ _ _ _ hy => flat_one h hy
/-- The fields cover all cells. -/
def coverB (P : Program) (fs : Array Field) (n : Nat) : Bool := (List.range n).all fun i => fs.toList.any fun f => decide (f.offset ≤ i) && decide (i < f.offset + P.cellsOf f.type)
theorem Good.struct {P : Program} {t : TypeId} {fs : Array Field} (ht : P.underlying t = some (.struct fs)) (hc : coverB P fs (P.cellsOf t) = true) (hf : ∀ f ∈ fs.toList, Good P f.type) : Good P t := by
  intro H enc w base spare held n cs y h v hv
  obtain ⟨ys, m, _, _, hlen, hyl, hfs⟩ := DataW.trod_struct ht h
  obtain ⟨i, hi, rfl⟩ := List.getElem_of_mem hv
  have h1 := List.all_eq_true.1 hc i (List.mem_range.2 (by omega))
  obtain ⟨f, hfm, h2⟩ := List.any_eq_true.1 h1
  rw [Bool.and_eq_true, decide_eq_true_eq, decide_eq_true_eq] at h2
  obtain ⟨j, hj, rfl⟩ := List.getElem_of_mem hfm
  have hj' : j < fs.size := by simpa using hj
  have h3 := hfs j fs[j] (Array.getElem?_eq_getElem hj')
  rw [List.getElem?_eq_getElem (by omega)] at h3
  have h4 : OneIn cs fs[j].offset (P.cellsOf fs[j].type) := hf fs[j] (by simp) enc w base spare held m _ _ h3
  simp only [Array.getElem_toList] at h2
  exact h4.at h2.1 h2.2 hi
theorem gInt : Good Try.prog 3 := Good.flat (by kernel_rfl)
theorem gStr : Good Try.prog 9 := Good.flat (by kernel_rfl)
theorem gVersion : Good Try.prog 26 := Good.struct Try.underlying26 (by kernel_rfl) fun f hf => by
  simp only [List.mem_cons, List.not_mem_nil, or_false] at hf
  rcases hf with rfl | rfl | rfl
  all_goals exact Good.flat (by kernel_rfl)
theorem gExp : Good Try.prog 35 := Good.struct Try.underlying35 (by kernel_rfl) fun f hf => by
  simp only [List.mem_cons, List.not_mem_nil, or_false] at hf
  rcases hf with rfl | rfl | rfl | rfl | rfl | rfl
  all_goals exact Good.flat (by kernel_rfl)
theorem gRelease : Good Try.prog 31 := Good.struct Try.underlying31 (by kernel_rfl) fun f hf => by
  simp only [List.mem_cons, List.not_mem_nil, or_false] at hf
  rcases hf with rfl | rfl | rfl | rfl | rfl | rfl | rfl
  all_goals first | exact gVersion | exact Good.flat (by kernel_rfl)
theorem gAdvice : Good Try.prog 37 := Good.struct Try.underlying37 (by kernel_rfl) fun f hf => by
  simp only [List.mem_cons, List.not_mem_nil, or_false] at hf
  rcases hf with rfl | rfl | rfl | rfl | rfl
  all_goals first | exact gExp | exact Good.flat (by kernel_rfl)
theorem gFact : Good Try.prog 39 := Good.struct Try.underlying39 (by kernel_rfl) fun f hf => by
  simp only [List.mem_cons, List.not_mem_nil, or_false] at hf
  rcases hf with rfl | rfl | rfl | rfl | rfl | rfl | rfl | rfl | rfl | rfl
  all_goals first | exact gVersion | exact gRelease | exact gAdvice | exact Good.flat (by kernel_rfl)
theorem take_one {cs : List Value} {o : Nat} (h : o < cs.length) : (cs.drop o).take 1 = [cs[o]] := by
  rw [List.drop_eq_getElem_cons h]; rfl
/-- What is known of a fact that was read. -/
structure FtIn (W : World) (f : Ft) : Prop where
  ok : FtOk W f
  rng : ∀ z ∈ f.keys, -9223372036854775808 ≤ z ∧ z ≤ 9223372036854775807
  nlen : (nm f).length ≤ 9223372036854775807
/-- A fact that was read. -/
theorem fact_read {H : Type} {enc : TypeId × Value → H} {W : World} {base n : Nat} {spare : Nat → Bool} {held : Bool} {cs : List Value} {y : DataW H × List MemPlace}
    (h : DataW.trod enc Try.prog W base spare held n 39 cs = some y) : ∃ f : Ft, f.cs = cs ∧ FtIn W f := by
  have hone := gFact enc W base spare held n cs y h
  obtain ⟨ys, m, _, _, hlen, hyl, hf⟩ := DataW.trod_struct Try.underlying39 h
  rw [cellsFact] at hlen
  have hyl : ys.length = 10 := hyl
  have cInt : Try.prog.cellsOf 3 = 1 := cellsIntV
  have cStr : Try.prog.cellsOf 9 = 1 := cellsStrV
  have cSl : Try.prog.cellsOf 23 = 1 := cellsSlV
  have g0 : DataW.trod enc Try.prog W base spare held m 3 [cs[0]] = some (ys[0]'(by omega)) := by
    have g : DataW.trod enc Try.prog W base spare held m 3 ((cs.drop 0).take (Try.prog.cellsOf 3)) = ys[0]? := hf 0 _ rfl
    rw [cInt, take_one (by omega), List.getElem?_eq_getElem (by omega)] at g; exact g
  have g1 : DataW.trod enc Try.prog W base spare held m 9 [cs[1]] = some (ys[1]'(by omega)) := by
    have g : DataW.trod enc Try.prog W base spare held m 9 ((cs.drop 1).take (Try.prog.cellsOf 9)) = ys[1]? := hf 1 _ rfl
    rw [cStr, take_one (by omega), List.getElem?_eq_getElem (by omega)] at g; exact g
  have g3 : DataW.trod enc Try.prog W base spare held m 31 ((cs.drop 5).take (Try.prog.cellsOf 31)) = some (ys[3]'(by omega)) := by
    have g : DataW.trod enc Try.prog W base spare held m 31 ((cs.drop 5).take (Try.prog.cellsOf 31)) = ys[3]? := hf 3 _ rfl
    rw [List.getElem?_eq_getElem (by omega)] at g; exact g
  have g4 : DataW.trod enc Try.prog W base spare held m 37 ((cs.drop 14).take (Try.prog.cellsOf 37)) = some (ys[4]'(by omega)) := by
    have g : DataW.trod enc Try.prog W base spare held m 37 ((cs.drop 14).take (Try.prog.cellsOf 37)) = ys[4]? := hf 4 _ rfl
    rw [List.getElem?_eq_getElem (by omega)] at g; exact g
  have g5 : DataW.trod enc Try.prog W base spare held m 23 [cs[24]] = some (ys[5]'(by omega)) := by
    have g : DataW.trod enc Try.prog W base spare held m 23 ((cs.drop 24).take (Try.prog.cellsOf 23)) = ys[5]? := hf 5 _ rfl
    rw [cSl, take_one (by omega), List.getElem?_eq_getElem (by omega)] at g; exact g
  have g6 : DataW.trod enc Try.prog W base spare held m 3 [cs[25]] = some (ys[6]'(by omega)) := by
    have g : DataW.trod enc Try.prog W base spare held m 3 ((cs.drop 25).take (Try.prog.cellsOf 3)) = ys[6]? := hf 6 _ rfl
    rw [cInt, take_one (by omega), List.getElem?_eq_getElem (by omega)] at g; exact g
  have g7 : DataW.trod enc Try.prog W base spare held m 3 [cs[26]] = some (ys[7]'(by omega)) := by
    have g : DataW.trod enc Try.prog W base spare held m 3 ((cs.drop 26).take (Try.prog.cellsOf 3)) = ys[7]? := hf 7 _ rfl
    rw [cInt, take_one (by omega), List.getElem?_eq_getElem (by omega)] at g; exact g
  have cRel : Try.prog.cellsOf 31 = 9 := by kernel_rfl
  have cAdv : Try.prog.cellsOf 37 = 10 := by kernel_rfl
  rw [cRel] at g3
  rw [cAdv] at g4
  obtain ⟨zs, m3, _, _, hl3, hzl, hz⟩ := DataW.trod_struct Try.underlying31 g3
  have hzl : zs.length = 7 := hzl
  have k0 : DataW.trod enc Try.prog W base spare held m3 9 [cs[5]] = some (zs[0]'(by omega)) := by
    have g : DataW.trod enc Try.prog W base spare held m3 9 ((((cs.drop 5).take 9).drop 0).take (Try.prog.cellsOf 9)) = zs[0]? := hz 0 _ rfl
    rw [cStr, take_one (by rw [List.length_take, List.length_drop]; omega), List.getElem?_eq_getElem (by omega)] at g
    simpa using g
  obtain ⟨us, m4, _, _, hl4, hul, hu⟩ := DataW.trod_struct Try.underlying37 g4
  have hul : us.length = 5 := hul
  have k1 : DataW.trod enc Try.prog W base spare held m4 9 [cs[15]] = some (us[1]'(by omega)) := by
    have g : DataW.trod enc Try.prog W base spare held m4 9 ((((cs.drop 14).take 10).drop 1).take (Try.prog.cellsOf 9)) = us[1]? := hu 1 _ rfl
    rw [cStr, take_one (by rw [List.length_take, List.length_drop]; omega), List.getElem?_eq_getElem (by omega)] at g
    simpa using g
  obtain ⟨x0, e0, _, w0⟩ := DataW.trod_int Try.underlying3 g0
  obtain ⟨x1, e1, _, w1⟩ := DataW.trod_string Try.underlying9 g1
  obtain ⟨x5, e5, _, w5⟩ := DataW.trod_string Try.underlying9 k0
  obtain ⟨x15, e15, _, w15⟩ := DataW.trod_string Try.underlying9 k1
  obtain ⟨ks, hks, hkr⟩ := ints_sl g5
  obtain ⟨x25, e25, _, w25⟩ := DataW.trod_int Try.underlying3 g6
  obtain ⟨x26, e26, _, w26⟩ := DataW.trod_int Try.underlying3 g7
  simp only [List.cons.injEq, and_true] at e0 e1 e5 e15 e25 e26
  have gt : ∀ (i : Nat) (hi : i < cs.length), cs[i]? = some cs[i] := fun i hi => List.getElem?_eq_getElem hi
  refine ⟨⟨x0, x1.data.toList, x5.data.toList, x15.data.toList, ks, x25, x26, cs⟩, rfl, ⟨hlen, hone, ?_, ?_, ?_, ?_, ⟨_, gt 24 (by omega), hks⟩, ?_, ?_⟩, hkr, ?_⟩
  · show cs[0]? = _
    rw [gt 0 (by omega), e0]
  · show cs[1]? = some (Value.string (S x1.data.toList))
    rw [gt 1 (by omega), e1, ← S_eta]
  · show cs[5]? = some (Value.string (S x5.data.toList))
    rw [gt 5 (by omega), e5, ← S_eta]
  · show cs[15]? = some (Value.string (S x15.data.toList))
    rw [gt 15 (by omega), e15, ← S_eta]
  · show cs[25]? = _
    rw [gt 25 (by omega), e25]
  · show cs[26]? = _
    rw [gt 26 (by omega), e26]
  · have l1 : x1.data.toList.length ≤ 9223372036854775807 := by rw [Array.length_toList]; exact (show x1.size ≤ 9223372036854775807 by unfold maxLen at w1; omega)
    have l5 : x5.data.toList.length ≤ 9223372036854775807 := by rw [Array.length_toList]; exact (show x5.size ≤ 9223372036854775807 by unfold maxLen at w5; omega)
    have l15 : x15.data.toList.length ≤ 9223372036854775807 := by rw [Array.length_toList]; exact (show x15.size ≤ 9223372036854775807 by unfold maxLen at w15; omega)
    unfold nm
    split
    · exact l5
    · split
      · exact l15
      · exact l1
/-- A slice of facts that was read, and its bytes. -/
theorem facts_sl {H : Type} {enc : TypeId × Value → H} {W : World} {base fuel : Nat} {spare : Nat → Bool} {held : Bool} {v : Value} {x : DataW H × List MemPlace}
    (h : DataW.trod enc Try.prog W base spare held fuel 22 [v] = some x) : ∃ l : List Ft, FSl W v l ∧ LR l ∧ (l = [] ∨ ∃ es sp, x.1 = .slice es sp ∧ l.length ≤ es.length + sp.length) := by
  rcases open_slice Try.underlying22 h with ⟨hcs, _⟩ | ⟨a, len, cap, m, n, D, Pl, hcs, _, hl, hm, hmm, hx, hi⟩
  · obtain rfl : v = .slice none 0 0 := by simpa using hcs
    exact ⟨[], .inl ⟨rfl, _, _, rfl⟩, ⟨by simp, by simp⟩, .inl rfl⟩
  · obtain rfl : v = .slice (some a) len cap := by simpa using hcs
    have hlm : len ≤ m := by rw [hmm]; split <;> omega
    rw [cellsFact] at hi
    rcases Nat.eq_zero_or_pos len with h0 | h0
    · subst h0; exact ⟨[], .inl ⟨rfl, _, _, rfl⟩, ⟨by simp, by simp⟩, .inl rfl⟩
    · obtain ⟨b, o, spot⟩ := a
      obtain ⟨cs0, hc0, ht0⟩ := hi 0 (by omega)
      have hspot : spot = none := by
        obtain ⟨_, hln, hat⟩ := World.cells?_some hc0
        have := hat 0 (by omega)
        rw [List.getElem?_eq_getElem (by omega)] at this
        simpa [Addr.add] using World.cell?_spot this
      subst hspot
      have ha : ∀ i j, ((⟨b, o, none⟩ : Addr).add (i * 29)).add j = ⟨b, o + i * 29 + j, none⟩ := fun i j => by unfold Addr.add; repeat' split <;> simp_all [Nat.add_assoc]
      have hex : ∀ k : Fin len, ∃ f : Ft, FtAt W b (o + k.val * 29) f ∧ FtIn W f := fun k => by
        obtain ⟨cs, hc, ht⟩ := hi k.val (by omega)
        obtain ⟨f, hfc, hin⟩ := fact_read ht
        obtain ⟨_, hln, hat⟩ := World.cells?_some hc
        refine ⟨f, ⟨hin.ok, fun j u hj => ?_⟩, hin⟩
        have hjl : j < 29 := by have := (List.getElem?_eq_some_iff.1 hj).1; rw [hin.ok.len] at this; exact this
        have h1 := hat j hjl
        rw [ha] at h1
        rw [h1, ← hfc, hj]
      have hch : ∃ f : Fin len → Ft, ∀ k : Fin len, FtAt W b (o + k.val * 29) (f k) ∧ FtIn W (f k) := ⟨fun k => (hex k).choose, fun k => (hex k).choose_spec⟩
      obtain ⟨f, hf⟩ := hch
      refine ⟨List.ofFn f, .inr ⟨b, o, cap, by simp, fun k hk => ?_, by simp; omega⟩, ⟨fun e he => ?_, fun e he => ?_⟩, .inr ⟨_, _, by rw [hx], by simp⟩⟩
      · rw [List.getElem_ofFn]
        exact (hf ⟨k, by simpa using hk⟩).1
      · obtain ⟨k, rfl⟩ := List.mem_ofFn.1 he
        exact (hf k).2.rng
      · obtain ⟨k, rfl⟩ := List.mem_ofFn.1 he
        exact (hf k).2.nlen
/-- A slice of slices of ints that was read, and its bytes. -/
theorem lists_sl {H : Type} {enc : TypeId × Value → H} {W : World} {base fuel : Nat} {spare : Nat → Bool} {held : Bool} {v : Value} {x : DataW H × List MemPlace}
    (h : DataW.trod enc Try.prog W base spare held fuel 24 [v] = some x) : ∃ l : List (List Int), SsSl W v l ∧ (∀ q ∈ l, ∀ z ∈ q, -9223372036854775808 ≤ z ∧ z ≤ 9223372036854775807) ∧ (l = [] ∨ ∃ es sp, x.1 = .slice es sp ∧ l.length ≤ es.length + sp.length) := by
  rcases open_slice Try.underlying24 h with ⟨hcs, _⟩ | ⟨a, len, cap, m, n, D, Pl, hcs, _, hl, hm, hmm, hx, hi⟩
  · obtain rfl : v = .slice none 0 0 := by simpa using hcs
    exact ⟨[], .inl ⟨rfl, _, _, rfl⟩, by simp, .inl rfl⟩
  · obtain rfl : v = .slice (some a) len cap := by simpa using hcs
    have hlm : len ≤ m := by rw [hmm]; split <;> omega
    rw [cellsSlV] at hi
    rcases Nat.eq_zero_or_pos len with h0 | h0
    · subst h0; exact ⟨[], .inl ⟨rfl, _, _, rfl⟩, by simp, .inl rfl⟩
    · obtain ⟨b, o, spot⟩ := a
      obtain ⟨cs0, hc0, ht0⟩ := hi 0 (by omega)
      have hspot : spot = none := by
        obtain ⟨_, hln, hat⟩ := World.cells?_some hc0
        have := hat 0 (by omega)
        rw [List.getElem?_eq_getElem (by omega)] at this
        simpa [Addr.add] using World.cell?_spot this
      subst hspot
      have ha : ∀ i j, ((⟨b, o, none⟩ : Addr).add (i * 1)).add j = ⟨b, o + i + j, none⟩ := fun i j => by unfold Addr.add; repeat' split <;> simp_all [Nat.add_assoc]
      have hex : ∀ k : Fin len, ∃ q : List Int, (∃ kv, W.cell? ⟨b, o + k.val, none⟩ = some kv ∧ Sl W kv q) ∧ ∀ z ∈ q, -9223372036854775808 ≤ z ∧ z ≤ 9223372036854775807 := fun k => by
        obtain ⟨cs, hc, ht⟩ := hi k.val (by omega)
        obtain ⟨_, hln, hat⟩ := World.cells?_some hc
        obtain ⟨kv, rfl⟩ := List.length_eq_one_iff.1 hln
        obtain ⟨q, hq, hr⟩ := ints_sl ht
        have h1 := hat 0 (by omega)
        rw [ha] at h1
        exact ⟨q, ⟨kv, by simpa using h1, hq⟩, hr⟩
      have hch : ∃ f : Fin len → List Int, ∀ k : Fin len, (∃ kv, W.cell? ⟨b, o + k.val, none⟩ = some kv ∧ Sl W kv (f k)) ∧ ∀ z ∈ f k, -9223372036854775808 ≤ z ∧ z ≤ 9223372036854775807 := ⟨fun k => (hex k).choose, fun k => (hex k).choose_spec⟩
      obtain ⟨f, hf⟩ := hch
      refine ⟨List.ofFn f, .inr ⟨b, o, cap, by simp, fun k hk => ?_, by simp; omega⟩, fun e he => ?_, .inr ⟨_, _, by rw [hx], by simp⟩⟩
      · rw [List.getElem_ofFn]
        exact (hf ⟨k, by simpa using hk⟩).1
      · obtain ⟨k, rfl⟩ := List.mem_ofFn.1 he
        exact (hf k).2
end Go.Proofs.Ytddeblcoglhdnaa
