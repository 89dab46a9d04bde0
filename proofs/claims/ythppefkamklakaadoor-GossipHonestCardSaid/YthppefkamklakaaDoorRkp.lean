/-
  What the proofs of the row of GossipHonest share: the arguments opened, the tables that the rows list, a world for the witness.
-/
import Derived.Test.YthppefkamklakaaDoorCards
import Derived.Test.YthppefkamklakaaDoorTie
import Derived.Test.YthppefkamklakaaDoorEj
import Derived.ProofKit
import Derived.OpenShut
import Derived.Deep.DeepHandedRow
import Derived.Deep.Slices
import Derived.Deep.Fields
import Derived.ChangeSame
import Derived.Lib.LaidTab
import Derived.Lib.SmallJoins
namespace Go.Proofs.YthppefkamklakaaDoor
open Go.ChangeShapes Go.WideShapes Go.ChangeAt Go.RowKit Go.Joins Go.Deep
open Go.ChangeMaps (open_string)

theorem ownKnobNone : ownKnob Tryd.prog.godebug = none := by kernel_rfl
theorem laidOut : laidOutB Tryd.prog = true := by kernel_rfl

theorem laidMet_tail {P : Program} {x : String × DataW Unit} {rest : List (String × DataW Unit)} {W : World} (h : laidMet P (x :: rest) W) : laidMet P rest W := by
  obtain ⟨ps, ⟨g', t', cs, fuel, p, q, hg', ht', hvar, hd, hr, rfl⟩, hn, hc⟩ := h
  exact ⟨q, hr, (List.nodup_append.1 hn).2.1, fun b off hm => hc b off (List.mem_append_right _ hm)⟩
theorem gTab : Tryd.prog.globalNamed "internal/strconv.uint64pow10" = some 0 := by kernel_rfl
theorem gTabType : (Tryd.prog.globals[0]?).map (·.type) = some 138 := by kernel_rfl
theorem cellsTab : Tryd.prog.cellsOf 138 = 20 := by kernel_rfl
theorem cellsU64 : Tryd.prog.cellsOf 126 = 1 := by kernel_rfl
theorem table {W : World} (h : laidMetH Tryd.prog [("math/bits.deBruijn32tab", Rows.laid_math_bits_deBruijn32tab), ("math/bits.deBruijn64tab", Rows.laid_math_bits_deBruijn64tab), ("internal/strconv.uint64pow10", Rows.laid_internal_strconv_uint64pow10)] W) : Tab W :=
  Lib.tabIs_of_head (rest := []) gTab gTabType Tryd.underlying138 Tryd.underlying126 cellsU64 cellsTab (laidMet_tail (laidMet_tail h))


theorem cellsIntV : Tryd.prog.cellsOf 3 = 1 := by kernel_rfl
theorem cellsStr' : Tryd.prog.cellsOf 9 = 1 := by kernel_rfl
/-- A world for the witness: the settled one, the tables holding what their initialisers lay. -/
noncomputable def laidWorld (os : Os) : World :=
  let h := (World.holding Tryd.prog os ⟨#[], #[], []⟩).heap
  let lay (cs : Array Value) : Obj → Obj := fun | .cells _ t frozen => .cells cs t frozen | o => o
  { World.holding Tryd.prog os ⟨#[], #[], []⟩ with heap := ((h.modify 0 (lay #[.int .u64 1, .int .u64 10, .int .u64 100, .int .u64 1000, .int .u64 10000, .int .u64 100000, .int .u64 1000000, .int .u64 10000000, .int .u64 100000000, .int .u64 1000000000, .int .u64 10000000000, .int .u64 100000000000, .int .u64 1000000000000, .int .u64 10000000000000, .int .u64 100000000000000, .int .u64 1000000000000000, .int .u64 10000000000000000, .int .u64 100000000000000000, .int .u64 1000000000000000000, .int .u64 10000000000000000000])).modify 1 (lay #[.int .u8 0, .int .u8 1, .int .u8 28, .int .u8 2, .int .u8 29, .int .u8 14, .int .u8 24, .int .u8 3, .int .u8 30, .int .u8 22, .int .u8 20, .int .u8 15, .int .u8 25, .int .u8 17, .int .u8 4, .int .u8 8, .int .u8 31, .int .u8 27, .int .u8 13, .int .u8 23, .int .u8 21, .int .u8 19, .int .u8 16, .int .u8 7, .int .u8 26, .int .u8 12, .int .u8 18, .int .u8 6, .int .u8 11, .int .u8 5, .int .u8 10, .int .u8 9])).modify 2 (lay #[.int .u8 0, .int .u8 1, .int .u8 56, .int .u8 2, .int .u8 57, .int .u8 49, .int .u8 28, .int .u8 3, .int .u8 61, .int .u8 58, .int .u8 42, .int .u8 50, .int .u8 38, .int .u8 29, .int .u8 17, .int .u8 4, .int .u8 62, .int .u8 47, .int .u8 59, .int .u8 36, .int .u8 45, .int .u8 43, .int .u8 51, .int .u8 22, .int .u8 53, .int .u8 39, .int .u8 33, .int .u8 30, .int .u8 24, .int .u8 18, .int .u8 12, .int .u8 5, .int .u8 63, .int .u8 55, .int .u8 48, .int .u8 27, .int .u8 60, .int .u8 41, .int .u8 37, .int .u8 16, .int .u8 46, .int .u8 35, .int .u8 44, .int .u8 21, .int .u8 52, .int .u8 32, .int .u8 23, .int .u8 11, .int .u8 54, .int .u8 26, .int .u8 40, .int .u8 15, .int .u8 34, .int .u8 20, .int .u8 31, .int .u8 10, .int .u8 25, .int .u8 14, .int .u8 19, .int .u8 9, .int .u8 13, .int .u8 8, .int .u8 7, .int .u8 6]) }
theorem cellsTurn : Tryd.prog.cellsOf 41 = 4 := by kernel_rfl
section
variable {H : Type} {enc : TypeId × Value → H} {P : Program} {w : World} {base : Nat} {spare : Nat → Bool} {held : Bool}
theorem open_slice_fields {t e : TypeId} {fs : Array Field} {fuel : Nat} {cs : List Value} {x : DataW H × List MemPlace} (ht : P.underlying t = some (.slice e)) (he : P.underlying e = some (.struct fs))
    (hone : oneCellFields P fs = true) (hC : P.cellsOf e = fs.size) (h : DataW.trod enc P w base spare held fuel t cs = some x) :
    (cs = [.slice none 0 0] ∧ x = (.nil, [])) ∨
    ∃ (a : Addr) (len cap m : Nat), cs = [.slice (some a) len cap] ∧ len ≤ cap ∧ cap ≤ maxLen ∧ len ≤ m ∧
      ∀ i, i < m → ∃ (n : Nat), ∀ (j : Nat) (f : Field), fs[j]? = some f → ∃ (v : Value) (y : DataW H × List MemPlace), w.cell? (a.add (i * fs.size + j)) = some v ∧ DataW.trod enc P w base spare held n f.type [v] = some y := by
  rcases open_slice ht h with h0 | ⟨a, len, cap, m, n, D, Pl, hcs, _, hl, hm, hmm, _, hi⟩
  · exact .inl h0
  · refine .inr ⟨a, len, cap, m, hcs, hl, hm, by rw [hmm]; split <;> omega, fun i him => ?_⟩
    obtain ⟨cs', hc, ht'⟩ := hi i him
    rw [hC] at hc
    obtain ⟨ys, n', _, _, hlen, _, hf⟩ := DataW.trod_struct he ht'
    obtain ⟨_, hcl, hat⟩ := World.cells?_some hc
    refine ⟨n', fun j f hj => ?_⟩
    obtain ⟨ho, hk⟩ := hone_of hone j f hj
    have hjl : j < fs.size := (Array.getElem?_eq_some_iff.1 hj).1
    have hcell := hat j hjl
    have hv : cs'[j]? = some (cs'[j]'(by omega)) := List.getElem?_eq_getElem (by omega)
    have h1 := hf j f hj
    rw [ho, hk] at h1
    have hone' : (cs'.drop j).take 1 = [cs'[j]'(by omega)] := by
      rw [List.drop_eq_getElem_cons (by omega)]
      rfl
    rw [hone'] at h1
    have hys : ys[j]? = some (ys[j]'(by omega)) := List.getElem?_eq_getElem (by omega)
    refine ⟨_, _, ?_, h1.trans hys⟩
    rw [← Go.Deep.add_add, hcell, hv]
end

/-- Element i of a slice of turns that was read. -/
theorem turn_at {H : Type} {enc : TypeId × Value → H} {W : World} {base n : Nat} {spare : Nat → Bool} {held : Bool} {b o : Nat} {i : Nat} {f0 f1 f2 f3 : Field}
    (hs : Tryd.prog.underlying 41 = some (.struct #[f0, f1, f2, f3]))
    (h : ∀ (j : Nat) (f : Field), #[f0, f1, f2, f3][j]? = some f → ∃ (v : Value) (y : DataW H × List MemPlace), W.cell? ((⟨b, o, none⟩ : Addr).add (i * 4 + j)) = some v ∧ DataW.trod enc Tryd.prog W base spare held n f.type [v] = some y) :
    ∃ u : Tu, TuIn W b (o + i * 4) u ∧ u.ok := by
  have ha : ∀ j, (⟨b, o, none⟩ : Addr).add (i * 4 + j) = ⟨b, o + i * 4 + j, none⟩ := fun j => by unfold Addr.add; split <;> simp_all [Nat.add_assoc]
  have hu := Tryd.underlying41
  rw [hs] at hu
  simp only [Option.some.injEq, TypeDesc.struct.injEq, Array.mk.injEq, List.cons.injEq, and_true] at hu
  obtain ⟨rfl, rfl, rfl, rfl⟩ := hu
  obtain ⟨v0, y0, c0, h0⟩ := h 0 _ rfl
  obtain ⟨v1, y1, c1, h1⟩ := h 1 _ rfl
  obtain ⟨v2, y2, c2, h2⟩ := h 2 _ rfl
  obtain ⟨v3, y3, c3, h3⟩ := h 3 _ rfl
  rw [ha] at c0 c1 c2 c3
  obtain ⟨a, e0, _, wa⟩ := DataW.trod_int Tryd.underlying3 h0
  obtain ⟨s, e1, _, hz1⟩ := DataW.trod_string Tryd.underlying9 h1
  obtain ⟨t, e2, _, hz2⟩ := DataW.trod_string Tryd.underlying9 h2
  obtain ⟨m, e3, _, wm⟩ := DataW.trod_int Tryd.underlying3 h3
  simp at e0 e1 e2 e3
  subst e0 e1 e2 e3
  refine ⟨(a, s.data.toList, t.data.toList, m), ⟨c0, ?_, ?_, c3⟩, bounds_i64 wa, ?_, ?_, bounds_i64 wm⟩
  · rw [c1]; show some (Value.string s) = some (Value.string (S s.data.toList)); rw [← S_eta]
  · rw [c2]; show some (Value.string t) = some (Value.string (S t.data.toList)); rw [← S_eta]
  · show s.data.toList.length ≤ 9223372036854775807; rw [Array.length_toList]; exact (show s.size ≤ 9223372036854775807 by unfold maxLen at hz1; omega)
  · show t.data.toList.length ≤ 9223372036854775807; rw [Array.length_toList]; exact (show t.size ≤ 9223372036854775807 by unfold maxLen at hz2; omega)
theorem turns_sl {H : Type} {enc : TypeId × Value → H} {W : World} {base fuel : Nat} {spare : Nat → Bool} {held : Bool} {v : Value} {x : DataW H × List MemPlace}
    (h : DataW.trod enc Tryd.prog W base spare held fuel 22 [v] = some x) : ∃ l : List Tu, TuSl W v l ∧ TArg l := by
  rcases open_slice_fields Tryd.underlying22 Tryd.underlying41 (by kernel_rfl) cellsTurn h with ⟨hcs, _⟩ | ⟨a, len, cap, m, hcs, hl, hm, hlm, hi⟩
  · obtain rfl : v = .slice none 0 0 := by simpa using hcs
    exact ⟨[], .inl ⟨rfl, _, _, rfl⟩, by simp, by simp⟩
  · obtain rfl : v = .slice (some a) len cap := by simpa using hcs
    rcases Nat.eq_zero_or_pos len with h0 | h0
    · subst h0; exact ⟨[], .inl ⟨rfl, _, _, rfl⟩, by simp, by simp⟩
    · obtain ⟨b, o, spot⟩ := a
      obtain ⟨n0, hn0⟩ := hi 0 (by omega)
      obtain ⟨_, _, hc0, _⟩ := hn0 0 _ rfl
      have hspot : spot = none := by simpa [Addr.add] using World.cell?_spot hc0
      subst hspot
      have hex : ∀ k : Fin len, ∃ u : Tu, TuIn W b (o + k.val * 4) u ∧ u.ok := fun k => by
        obtain ⟨n, hn⟩ := hi k.val (by omega)
        exact turn_at Tryd.underlying41 hn
      have hch : ∃ f : Fin len → Tu, ∀ k, TuIn W b (o + k.val * 4) (f k) ∧ (f k).ok := ⟨fun k => (hex k).choose, fun k => (hex k).choose_spec⟩
      obtain ⟨f, hf⟩ := hch
      refine ⟨List.ofFn f, .inr ⟨b, o, cap, by simp, fun k hk => ?_⟩, by simp; unfold maxLen at hm; omega, fun e he => ?_⟩
      · rw [List.getElem_ofFn]
        exact (hf ⟨k, by simpa using hk⟩).1
      · obtain ⟨k, rfl⟩ := List.mem_ofFn.1 he
        exact (hf k).2
theorem ints_sl {H : Type} {enc : TypeId × Value → H} {W : World} {base fuel : Nat} {spare : Nat → Bool} {held : Bool} {v : Value} {x : DataW H × List MemPlace}
    (h : DataW.trod enc Tryd.prog W base spare held fuel 23 [v] = some x) : ∃ l : List Int, ISl W v l ∧ IArg l := by
  rcases open_ints Tryd.underlying23 Tryd.underlying3 cellsIntV h with ⟨hcs, _⟩ | ⟨a, len, cap, zs, hcs, _, hl, hm, hz, _, hcell, hw⟩
  · obtain rfl : v = .slice none 0 0 := by simpa using hcs
    exact ⟨[], .inl ⟨rfl, _, _, rfl⟩, by simp, by simp⟩
  · obtain rfl : v = .slice (some a) len cap := by simpa using hcs
    have hlen : len ≤ zs.length := by rw [hz]; split <;> omega
    refine ⟨zs.take len, ?_, by rw [List.length_take]; unfold maxLen at hm; omega, fun n hn => bounds_i64 (hw n (List.mem_of_mem_take hn))⟩
    rcases Nat.eq_zero_or_pos len with h0 | h0
    · subst h0; exact .inl ⟨by simp, _, _, rfl⟩
    · obtain ⟨b, o, rfl, hc⟩ := ints_at hcell (by omega)
      refine .inr ⟨b, o, cap, by rw [List.length_take, Nat.min_eq_left hlen], fun i hi => ?_⟩
      have hi' : i < len := by rw [List.length_take] at hi; omega
      rw [hc i (by omega), List.getElem_take]
      simp [List.getD, List.getElem?_eq_getElem (show i < zs.length by omega)]

theorem cellsPair : Tryd.prog.cellsOf 53 = 2 := by kernel_rfl
theorem pair_of {α : Type} {l : List α} (h : l.length = 2) : ∃ a b, l = [a, b] := by
  match l, h with
  | [a, b], _ => exact ⟨a, b, rfl⟩
set_option maxRecDepth 100000 in
/-- A pair that was read. -/
theorem pair_at {H : Type} {enc : TypeId × Value → H} {W : World} {base n base2 : Nat} {spare : Nat → Bool} {held : Bool} {b o : Nat} {i : Nat} {cs : List Value} {y : DataW H × List MemPlace}
    (hc : W.cells? base2 ((⟨b, o, none⟩ : Addr).add (i * 2)) 2 = some cs) (h : DataW.trod enc Tryd.prog W base spare held n 53 cs = some y) :
    ∃ u : Int × Int, (W.cell? ⟨b, o + i * 2, none⟩ = some (.int .i64 u.1) ∧ W.cell? ⟨b, o + i * 2 + 1, none⟩ = some (.int .i64 u.2)) ∧ Wm.inInt u.1 ∧ Wm.inInt u.2 := by
  obtain ⟨_, hlen, hat⟩ := World.cells?_some hc
  obtain ⟨v0, v1, rfl⟩ := pair_of hlen
  obtain ⟨ys, n1, _, _, _, hyl, hf⟩ := DataW.trod_array Tryd.underlying53 h
  have g0 : DataW.trod enc Tryd.prog W base spare held n1 3 [v0] = some (ys[0]'(by omega)) := by
    have g := hf 0 (by omega)
    rw [cellsIntV, List.getElem?_eq_getElem (by omega)] at g
    exact g
  have g1 : DataW.trod enc Tryd.prog W base spare held n1 3 [v1] = some (ys[1]'(by omega)) := by
    have g := hf 1 (by omega)
    rw [cellsIntV, List.getElem?_eq_getElem (by omega)] at g
    exact g
  obtain ⟨x0, e0, _, w0⟩ := DataW.trod_int Tryd.underlying3 g0
  obtain ⟨x1, e1, _, w1⟩ := DataW.trod_int Tryd.underlying3 g1
  simp only [List.cons.injEq, and_true] at e0 e1
  subst e0 e1
  have ha : ∀ j, ((⟨b, o, none⟩ : Addr).add (i * 2)).add j = ⟨b, o + i * 2 + j, none⟩ := fun j => by unfold Addr.add; repeat' split <;> simp_all [Nat.add_assoc]
  have q0 := hat 0 (by omega)
  have q1 := hat 1 (by omega)
  rw [ha] at q0 q1
  exact ⟨(x0, x1), ⟨q0, q1⟩, bounds_i64 w0, bounds_i64 w1⟩
theorem pairs_sl {H : Type} {enc : TypeId × Value → H} {W : World} {base fuel : Nat} {spare : Nat → Bool} {held : Bool} {v : Value} {x : DataW H × List MemPlace}
    (h : DataW.trod enc Tryd.prog W base spare held fuel 24 [v] = some x) : ∃ l : List (Int × Int), OSl W v l ∧ OArg l := by
  rcases open_slice Tryd.underlying24 h with ⟨hcs, _⟩ | ⟨a, len, cap, m, n, D, Pl, hcs, _, hl, hm, hmm, _, hi⟩
  · obtain rfl : v = .slice none 0 0 := by simpa using hcs
    exact ⟨[], .inl ⟨rfl, _, _, rfl⟩, by simp, by simp⟩
  · obtain rfl : v = .slice (some a) len cap := by simpa using hcs
    have hlm : len ≤ m := by rw [hmm]; split <;> omega
    rw [cellsPair] at hi
    rcases Nat.eq_zero_or_pos len with h0 | h0
    · subst h0; exact ⟨[], .inl ⟨rfl, _, _, rfl⟩, by simp, by simp⟩
    · obtain ⟨b, o, spot⟩ := a
      obtain ⟨cs0, hc0, ht0⟩ := hi 0 (by omega)
      have hspot : spot = none := by
        obtain ⟨_, hln, hat⟩ := World.cells?_some hc0
        obtain ⟨v0, v1, rfl⟩ := pair_of hln
        have := hat 0 (by omega)
        simpa [Addr.add] using World.cell?_spot this
      subst hspot
      have hex : ∀ k : Fin len, ∃ u : Int × Int, (W.cell? ⟨b, o + k.val * 2, none⟩ = some (.int .i64 u.1) ∧ W.cell? ⟨b, o + k.val * 2 + 1, none⟩ = some (.int .i64 u.2)) ∧ Wm.inInt u.1 ∧ Wm.inInt u.2 := fun k => by
        obtain ⟨cs, hc, ht⟩ := hi k.val (by omega)
        exact pair_at hc ht
      have hch : ∃ f : Fin len → Int × Int, ∀ k, (W.cell? ⟨b, o + k.val * 2, none⟩ = some (.int .i64 (f k).1) ∧ W.cell? ⟨b, o + k.val * 2 + 1, none⟩ = some (.int .i64 (f k).2)) ∧ Wm.inInt (f k).1 ∧ Wm.inInt (f k).2 := ⟨fun k => (hex k).choose, fun k => (hex k).choose_spec⟩
      obtain ⟨f, hf⟩ := hch
      refine ⟨List.ofFn f, .inr ⟨b, o, cap, by simp, fun k hk => ?_⟩, by simp; unfold maxLen at hm; omega, fun e he => ?_⟩
      · rw [List.getElem_ofFn]
        exact (hf ⟨k, by simpa using hk⟩).1
      · obtain ⟨k, rfl⟩ := List.mem_ofFn.1 he
        exact (hf k).2
end Go.Proofs.YthppefkamklakaaDoor
