/-
  ViewBook: for all keys, at most 25 turns of a book with names and texts of at most 100 bytes, and at most 80 orders: whatever the book signs is accepted, in whatever order it comes, and however often; what the view says of entries, of the size, and of absent keys is true of the book.
  Conditions: the row's own: the three tables of Go's library that it lists read as their initialisers lay them, which the card ties to the program's text.
-/
import Derived.Test.YtapdabebiinnnaaDoorCards
import Derived.Test.YtapdabebiinnnaaDoorTie
import Derived.Test.YtapdabebiinnnaaDoorVnr
import Derived.ProofKit
import Derived.OpenShut
import Derived.Deep.DeepHandedRow
import Derived.Deep.Slices
import Derived.Deep.Fields
import Derived.ChangeSame
import Derived.Lib.LaidTab
import Derived.Lib.SmallJoins
import Derived.Test.YtapdabebiinnnaaDoorVbk
namespace Go.Proofs.YtapdabebiinnnaaDoor
open Go.ChangeShapes Go.WideShapes Go.ChangeAt Go.RowKit Go.Joins Go.Deep
open Go.ChangeMaps (open_string)

theorem ownKnobNone : ownKnob Tryd.prog.godebug = none := by kernel_rfl
theorem laidOut : laidOutB Tryd.prog = true := by kernel_rfl
theorem cellsSay : Tryd.prog.cellsOf 76 = 7 := by kernel_rfl

theorem laidMet_tail {P : Program} {x : String × DataW Unit} {rest : List (String × DataW Unit)} {W : World} (h : laidMet P (x :: rest) W) : laidMet P rest W := by
  obtain ⟨ps, ⟨g', t', cs, fuel, p, q, hg', ht', hvar, hd, hr, rfl⟩, hn, hc⟩ := h
  exact ⟨q, hr, (List.nodup_append.1 hn).2.1, fun b off hm => hc b off (List.mem_append_right _ hm)⟩
theorem gTab : Tryd.prog.globalNamed "internal/strconv.uint64pow10" = some 0 := by kernel_rfl
theorem gTabType : (Tryd.prog.globals[0]?).map (·.type) = some 145 := by kernel_rfl
theorem cellsTab : Tryd.prog.cellsOf 145 = 20 := by kernel_rfl
theorem cellsU64 : Tryd.prog.cellsOf 121 = 1 := by kernel_rfl
theorem table {W : World} (h : laidMetH Tryd.prog [("math/bits.deBruijn32tab", Rows.laid_math_bits_deBruijn32tab), ("math/bits.deBruijn64tab", Rows.laid_math_bits_deBruijn64tab), ("internal/strconv.uint64pow10", Rows.laid_internal_strconv_uint64pow10)] W) : Tab W :=
  Lib.tabIs_of_head (rest := []) gTab gTabType Tryd.underlying145 Tryd.underlying121 cellsU64 cellsTab (laidMet_tail (laidMet_tail h))


theorem cellsIntV : Tryd.prog.cellsOf 3 = 1 := by kernel_rfl
theorem cellsStr' : Tryd.prog.cellsOf 9 = 1 := by kernel_rfl
theorem cellsClm : Tryd.prog.cellsOf 32 = 4 := by kernel_rfl
theorem seven {α : Type} {l : List α} (h : l.length = 7) : ∃ a b c d e f g, l = [a, b, c, d, e, f, g] := by
  match l, h with
  | [a, b, c, d, e, f, g], _ => exact ⟨a, b, c, d, e, f, g, rfl⟩
/-- A Say that was read. -/
theorem say_at {H : Type} {enc : TypeId × Value → H} {W : World} {base n base2 : Nat} {spare : Nat → Bool} {held : Bool} {b o : Nat} {i : Nat} {cs : List Value} {y : DataW H × List MemPlace}
    (hc : W.cells? base2 ((⟨b, o, none⟩ : Addr).add (i * 7)) 7 = some cs) (h : DataW.trod enc Tryd.prog W base spare held n 76 cs = some y) :
    ∃ u : Sy, SyIn W b (o + i * 7) u ∧ u.ok := by
  obtain ⟨_, hlen, hat⟩ := World.cells?_some hc
  obtain ⟨v0, v1, v2, v3, v4, v5, v6, rfl⟩ := seven hlen
  obtain ⟨ys, n1, _, _, _, hyl, hf⟩ := DataW.trod_struct Tryd.underlying76 h
  have hyl : ys.length = 4 := hyl
  have g0 : DataW.trod enc Tryd.prog W base spare held n1 3 [v0] = some (ys[0]'(by omega)) := by
    have g : DataW.trod enc Tryd.prog W base spare held n1 3 (([v0, v1, v2, v3, v4, v5, v6].drop 0).take (Tryd.prog.cellsOf 3)) = ys[0]? := hf 0 _ rfl
    rw [cellsIntV, List.getElem?_eq_getElem (by omega)] at g; exact g
  have g1 : DataW.trod enc Tryd.prog W base spare held n1 32 [v1, v2, v3, v4] = some (ys[1]'(by omega)) := by
    have g : DataW.trod enc Tryd.prog W base spare held n1 32 (([v0, v1, v2, v3, v4, v5, v6].drop 1).take (Tryd.prog.cellsOf 32)) = ys[1]? := hf 1 _ rfl
    rw [cellsClm, List.getElem?_eq_getElem (by omega)] at g; exact g
  have g2 : DataW.trod enc Tryd.prog W base spare held n1 9 [v5] = some (ys[2]'(by omega)) := by
    have g : DataW.trod enc Tryd.prog W base spare held n1 9 (([v0, v1, v2, v3, v4, v5, v6].drop 5).take (Tryd.prog.cellsOf 9)) = ys[2]? := hf 2 _ rfl
    rw [cellsStr', List.getElem?_eq_getElem (by omega)] at g; exact g
  have g3 : DataW.trod enc Tryd.prog W base spare held n1 3 [v6] = some (ys[3]'(by omega)) := by
    have g : DataW.trod enc Tryd.prog W base spare held n1 3 (([v0, v1, v2, v3, v4, v5, v6].drop 6).take (Tryd.prog.cellsOf 3)) = ys[3]? := hf 3 _ rfl
    rw [cellsIntV, List.getElem?_eq_getElem (by omega)] at g; exact g
  obtain ⟨zs, n2, _, _, _, hzl, hz⟩ := DataW.trod_struct Tryd.underlying32 g1
  have hzl : zs.length = 4 := hzl
  have k0 : DataW.trod enc Tryd.prog W base spare held n2 3 [v1] = some (zs[0]'(by omega)) := by
    have g : DataW.trod enc Tryd.prog W base spare held n2 3 (([v1, v2, v3, v4].drop 0).take (Tryd.prog.cellsOf 3)) = zs[0]? := hz 0 _ rfl
    rw [cellsIntV, List.getElem?_eq_getElem (by omega)] at g; exact g
  have k1 : DataW.trod enc Tryd.prog W base spare held n2 3 [v2] = some (zs[1]'(by omega)) := by
    have g : DataW.trod enc Tryd.prog W base spare held n2 3 (([v1, v2, v3, v4].drop 1).take (Tryd.prog.cellsOf 3)) = zs[1]? := hz 1 _ rfl
    rw [cellsIntV, List.getElem?_eq_getElem (by omega)] at g; exact g
  have k2 : DataW.trod enc Tryd.prog W base spare held n2 3 [v3] = some (zs[2]'(by omega)) := by
    have g : DataW.trod enc Tryd.prog W base spare held n2 3 (([v1, v2, v3, v4].drop 2).take (Tryd.prog.cellsOf 3)) = zs[2]? := hz 2 _ rfl
    rw [cellsIntV, List.getElem?_eq_getElem (by omega)] at g; exact g
  have k3 : DataW.trod enc Tryd.prog W base spare held n2 9 [v4] = some (zs[3]'(by omega)) := by
    have g : DataW.trod enc Tryd.prog W base spare held n2 9 (([v1, v2, v3, v4].drop 3).take (Tryd.prog.cellsOf 9)) = zs[3]? := hz 3 _ rfl
    rw [cellsStr', List.getElem?_eq_getElem (by omega)] at g; exact g
  obtain ⟨x0, e0, _, w0⟩ := DataW.trod_int Tryd.underlying3 g0
  obtain ⟨x1, e1, _, w1⟩ := DataW.trod_int Tryd.underlying3 k0
  obtain ⟨x2, e2, _, w2⟩ := DataW.trod_int Tryd.underlying3 k1
  obtain ⟨x3, e3, _, w3⟩ := DataW.trod_int Tryd.underlying3 k2
  obtain ⟨x4, e4, _, w4⟩ := DataW.trod_string Tryd.underlying9 k3
  obtain ⟨x5, e5, _, w5⟩ := DataW.trod_string Tryd.underlying9 g2
  obtain ⟨x6, e6, _, w6⟩ := DataW.trod_int Tryd.underlying3 g3
  simp only [List.cons.injEq, and_true] at e0 e1 e2 e3 e4 e5 e6
  subst e0 e1 e2 e3 e4 e5 e6
  have ha : ∀ j, ((⟨b, o, none⟩ : Addr).add (i * 7)).add j = ⟨b, o + i * 7 + j, none⟩ := fun j => by unfold Addr.add; repeat' split <;> simp_all [Nat.add_assoc]
  have q0 := hat 0 (by omega)
  have q1 := hat 1 (by omega)
  have q2 := hat 2 (by omega)
  have q3 := hat 3 (by omega)
  have q4 := hat 4 (by omega)
  have q5 := hat 5 (by omega)
  have q6 := hat 6 (by omega)
  rw [ha] at q0 q1 q2 q3 q4 q5 q6
  have hs4 : x4.data.toList.length ≤ 9223372036854775807 := by rw [Array.length_toList]; exact (show x4.size ≤ 9223372036854775807 by unfold maxLen at w4; omega)
  have hs5 : x5.data.toList.length ≤ 9223372036854775807 := by rw [Array.length_toList]; exact (show x5.size ≤ 9223372036854775807 by unfold maxLen at w5; omega)
  refine ⟨(x0, ⟨x1, x2, x3, x4.data.toList⟩, x5.data.toList, x6), ⟨q0, q1, q2, q3, ?_, ?_, q6⟩, bounds_i64 w0, ⟨bounds_i64 w1, bounds_i64 w2, bounds_i64 w3, hs4⟩, hs5, bounds_i64 w6⟩
  · rw [q4]; show some (Value.string x4) = some (Value.string (S x4.data.toList)); rw [← S_eta]
  · rw [q5]; show some (Value.string x5) = some (Value.string (S x5.data.toList)); rw [← S_eta]
theorem says_sl {H : Type} {enc : TypeId × Value → H} {W : World} {base fuel : Nat} {spare : Nat → Bool} {held : Bool} {v : Value} {x : DataW H × List MemPlace}
    (h : DataW.trod enc Tryd.prog W base spare held fuel 22 [v] = some x) : ∃ l : List Sy, SySl W v l ∧ SArg l := by
  rcases open_slice Tryd.underlying22 h with ⟨hcs, _⟩ | ⟨a, len, cap, m, n, D, Pl, hcs, _, hl, hm, hmm, _, hi⟩
  · obtain rfl : v = .slice none 0 0 := by simpa using hcs
    exact ⟨[], .inl ⟨rfl, _, _, rfl⟩, by simp, by simp⟩
  · obtain rfl : v = .slice (some a) len cap := by simpa using hcs
    have hlm : len ≤ m := by rw [hmm]; split <;> omega
    rw [cellsSay] at hi
    rcases Nat.eq_zero_or_pos len with h0 | h0
    · subst h0; exact ⟨[], .inl ⟨rfl, _, _, rfl⟩, by simp, by simp⟩
    · obtain ⟨b, o, spot⟩ := a
      obtain ⟨cs0, hc0, ht0⟩ := hi 0 (by omega)
      have hspot : spot = none := by
        obtain ⟨_, hln, hat⟩ := World.cells?_some hc0
        obtain ⟨v0, v1, v2, v3, v4, v5, v6, rfl⟩ := seven hln
        have := hat 0 (by omega)
        simpa [Addr.add] using World.cell?_spot this
      subst hspot
      have hex : ∀ k : Fin len, ∃ u : Sy, SyIn W b (o + k.val * 7) u ∧ u.ok := fun k => by
        obtain ⟨cs, hc, ht⟩ := hi k.val (by omega)
        exact say_at hc ht
      have hch : ∃ f : Fin len → Sy, ∀ k, SyIn W b (o + k.val * 7) (f k) ∧ (f k).ok := ⟨fun k => (hex k).choose, fun k => (hex k).choose_spec⟩
      obtain ⟨f, hf⟩ := hch
      refine ⟨List.ofFn f, .inr ⟨b, o, cap, by simp, fun k hk => ?_⟩, by simp; unfold maxLen at hm; omega, fun e he => ?_⟩
      · rw [List.getElem_ofFn]
        exact (hf ⟨k, by simpa using hk⟩).1
      · obtain ⟨k, rfl⟩ := List.mem_ofFn.1 he
        exact (hf k).2
/-- A world for the witness: the settled one, the tables holding what their initialisers lay. -/
noncomputable def laidWorld (os : Os) : World :=
  let h := (World.holding Tryd.prog os ⟨#[], #[], []⟩).heap
  let lay (cs : Array Value) : Obj → Obj := fun | .cells _ t frozen => .cells cs t frozen | o => o
  { World.holding Tryd.prog os ⟨#[], #[], []⟩ with heap := ((h.modify 0 (lay #[.int .u64 1, .int .u64 10, .int .u64 100, .int .u64 1000, .int .u64 10000, .int .u64 100000, .int .u64 1000000, .int .u64 10000000, .int .u64 100000000, .int .u64 1000000000, .int .u64 10000000000, .int .u64 100000000000, .int .u64 1000000000000, .int .u64 10000000000000, .int .u64 100000000000000, .int .u64 1000000000000000, .int .u64 10000000000000000, .int .u64 100000000000000000, .int .u64 1000000000000000000, .int .u64 10000000000000000000])).modify 1 (lay #[.int .u8 0, .int .u8 1, .int .u8 28, .int .u8 2, .int .u8 29, .int .u8 14, .int .u8 24, .int .u8 3, .int .u8 30, .int .u8 22, .int .u8 20, .int .u8 15, .int .u8 25, .int .u8 17, .int .u8 4, .int .u8 8, .int .u8 31, .int .u8 27, .int .u8 13, .int .u8 23, .int .u8 21, .int .u8 19, .int .u8 16, .int .u8 7, .int .u8 26, .int .u8 12, .int .u8 18, .int .u8 6, .int .u8 11, .int .u8 5, .int .u8 10, .int .u8 9])).modify 2 (lay #[.int .u8 0, .int .u8 1, .int .u8 56, .int .u8 2, .int .u8 57, .int .u8 49, .int .u8 28, .int .u8 3, .int .u8 61, .int .u8 58, .int .u8 42, .int .u8 50, .int .u8 38, .int .u8 29, .int .u8 17, .int .u8 4, .int .u8 62, .int .u8 47, .int .u8 59, .int .u8 36, .int .u8 45, .int .u8 43, .int .u8 51, .int .u8 22, .int .u8 53, .int .u8 39, .int .u8 33, .int .u8 30, .int .u8 24, .int .u8 18, .int .u8 12, .int .u8 5, .int .u8 63, .int .u8 55, .int .u8 48, .int .u8 27, .int .u8 60, .int .u8 41, .int .u8 37, .int .u8 16, .int .u8 46, .int .u8 35, .int .u8 44, .int .u8 21, .int .u8 52, .int .u8 32, .int .u8 23, .int .u8 11, .int .u8 54, .int .u8 26, .int .u8 40, .int .u8 15, .int .u8 34, .int .u8 20, .int .u8 31, .int .u8 10, .int .u8 25, .int .u8 14, .int .u8 19, .int .u8 9, .int .u8 13, .int .u8 8, .int .u8 7, .int .u8 6]) }
end Go.Proofs.YtapdabebiinnnaaDoor
namespace Go.Proofs.YtapdabebiinnnaaDoor
open Go.ChangeShapes Go.WideShapes Go.ChangeAt Go.RowKit Go.Joins Go.Deep
open Go.ChangeMaps (open_string)

theorem cellsTurn : Tryd.prog.cellsOf 52 = 4 := by kernel_rfl
section
variable {H : Type} {enc : TypeId × Value → H} {P : Program} {w : World} {base : Nat} {spare : Nat → Bool} {held : Bool}
theorem open_slice_fields {t e : TypeId} {fs : Array Field} {fuel : Nat} {cs : List Value} {x : DataW H × List MemPlace} (ht : P.underlying t = some (.slice e)) (he : P.underlying e = some (.struct fs))
    (hone : oneCellFields P fs = true) (hC : P.cellsOf e = fs.size) (h : DataW.trod enc P w base spare held fuel t cs = some x) :
    (cs = [.slice none 0 0] ∧ x = (.nil, [])) ∨
    ∃ (a : Addr) (len cap m : Nat), cs = [.slice (some a) len cap] ∧ len ≤ cap ∧ cap ≤ maxLen ∧ len ≤ m ∧
      ∀ i, i < m → ∃ (n : Nat), ∀ (j : Nat) (f : Field), fs[j]? = some f → ∃ (v : Value) (y : DataW H × List MemPlace), w.cell? (a.add (i * fs.size + j)) = some v ∧ DataW.trod enc P w base spare held n f.type [v] = some y := by
  rcases open_slice ht h with h0 | ⟨a, len, cap, m, n, D, Pl, hcs, _, hl, hm, hmm, _, hi⟩
  · exact .inl h0
  · refine .inr ⟨a, len, cap, m, hcs, hl, hm, by rw [hmm]; split <;> omega, fun i him => ?_⟩
    obtain ⟨cs', hc, ht'⟩ := hi i him
    rw [hC] at hc
    obtain ⟨ys, n', _, _, hlen, _, hf⟩ := DataW.trod_struct he ht'
    obtain ⟨_, hcl, hat⟩ := World.cells?_some hc
    refine ⟨n', fun j f hj => ?_⟩
    obtain ⟨ho, hk⟩ := hone_of hone j f hj
    have hjl : j < fs.size := (Array.getElem?_eq_some_iff.1 hj).1
    have hcell := hat j hjl
    have hv : cs'[j]? = some (cs'[j]'(by omega)) := List.getElem?_eq_getElem (by omega)
    have h1 := hf j f hj
    rw [ho, hk] at h1
    have hone' : (cs'.drop j).take 1 = [cs'[j]'(by omega)] := by
      rw [List.drop_eq_getElem_cons (by omega)]
      rfl
    rw [hone'] at h1
    have hys : ys[j]? = some (ys[j]'(by omega)) := List.getElem?_eq_getElem (by omega)
    refine ⟨_, _, ?_, h1.trans hys⟩
    rw [← Go.Deep.add_add, hcell, hv]
end

/-- Element i of a slice of turns that was read. -/
theorem turn_at {H : Type} {enc : TypeId × Value → H} {W : World} {base n : Nat} {spare : Nat → Bool} {held : Bool} {b o : Nat} {i : Nat} {f0 f1 f2 f3 : Field}
    (hs : Tryd.prog.underlying 52 = some (.struct #[f0, f1, f2, f3]))
    (h : ∀ (j : Nat) (f : Field), #[f0, f1, f2, f3][j]? = some f → ∃ (v : Value) (y : DataW H × List MemPlace), W.cell? ((⟨b, o, none⟩ : Addr).add (i * 4 + j)) = some v ∧ DataW.trod enc Tryd.prog W base spare held n f.type [v] = some y) :
    ∃ u : Tu, TuIn W b (o + i * 4) u ∧ u.ok := by
  have ha : ∀ j, (⟨b, o, none⟩ : Addr).add (i * 4 + j) = ⟨b, o + i * 4 + j, none⟩ := fun j => by unfold Addr.add; split <;> simp_all [Nat.add_assoc]
  have hu := Tryd.underlying52
  rw [hs] at hu
  simp only [Option.some.injEq, TypeDesc.struct.injEq, Array.mk.injEq, List.cons.injEq, and_true] at hu
  obtain ⟨rfl, rfl, rfl, rfl⟩ := hu
  obtain ⟨v0, y0, c0, h0⟩ := h 0 _ rfl
  obtain ⟨v1, y1, c1, h1⟩ := h 1 _ rfl
  obtain ⟨v2, y2, c2, h2⟩ := h 2 _ rfl
  obtain ⟨v3, y3, c3, h3⟩ := h 3 _ rfl
  rw [ha] at c0 c1 c2 c3
  obtain ⟨a, e0, _, wa⟩ := DataW.trod_int Tryd.underlying3 h0
  obtain ⟨s, e1, _, hz1⟩ := DataW.trod_string Tryd.underlying9 h1
  obtain ⟨t, e2, _, hz2⟩ := DataW.trod_string Tryd.underlying9 h2
  obtain ⟨m, e3, _, wm⟩ := DataW.trod_int Tryd.underlying3 h3
  simp at e0 e1 e2 e3
  subst e0 e1 e2 e3
  refine ⟨(a, s.data.toList, t.data.toList, m), ⟨c0, ?_, ?_, c3⟩, bounds_i64 wa, ?_, ?_, bounds_i64 wm⟩
  · rw [c1]; show some (Value.string s) = some (Value.string (S s.data.toList)); rw [← S_eta]
  · rw [c2]; show some (Value.string t) = some (Value.string (S t.data.toList)); rw [← S_eta]
  · show s.data.toList.length ≤ 9223372036854775807; rw [Array.length_toList]; exact (show s.size ≤ 9223372036854775807 by unfold maxLen at hz1; omega)
  · show t.data.toList.length ≤ 9223372036854775807; rw [Array.length_toList]; exact (show t.size ≤ 9223372036854775807 by unfold maxLen at hz2; omega)
theorem turns_sl {H : Type} {enc : TypeId × Value → H} {W : World} {base fuel : Nat} {spare : Nat → Bool} {held : Bool} {v : Value} {x : DataW H × List MemPlace}
    (h : DataW.trod enc Tryd.prog W base spare held fuel 45 [v] = some x) : ∃ l : List Tu, TuSl W v l ∧ TArg l := by
  rcases open_slice_fields Tryd.underlying45 Tryd.underlying52 (by kernel_rfl) cellsTurn h with ⟨hcs, _⟩ | ⟨a, len, cap, m, hcs, hl, hm, hlm, hi⟩
  · obtain rfl : v = .slice none 0 0 := by simpa using hcs
    exact ⟨[], .inl ⟨rfl, _, _, rfl⟩, by simp, by simp⟩
  · obtain rfl : v = .slice (some a) len cap := by simpa using hcs
    rcases Nat.eq_zero_or_pos len with h0 | h0
    · subst h0; exact ⟨[], .inl ⟨rfl, _, _, rfl⟩, by simp, by simp⟩
    · obtain ⟨b, o, spot⟩ := a
      obtain ⟨n0, hn0⟩ := hi 0 (by omega)
      obtain ⟨_, _, hc0, _⟩ := hn0 0 _ rfl
      have hspot : spot = none := by simpa [Addr.add] using World.cell?_spot hc0
      subst hspot
      have hex : ∀ k : Fin len, ∃ u : Tu, TuIn W b (o + k.val * 4) u ∧ u.ok := fun k => by
        obtain ⟨n, hn⟩ := hi k.val (by omega)
        exact turn_at Tryd.underlying52 hn
      have hch : ∃ f : Fin len → Tu, ∀ k, TuIn W b (o + k.val * 4) (f k) ∧ (f k).ok := ⟨fun k => (hex k).choose, fun k => (hex k).choose_spec⟩
      obtain ⟨f, hf⟩ := hch
      refine ⟨List.ofFn f, .inr ⟨b, o, cap, by simp, fun k hk => ?_⟩, by simp; unfold maxLen at hm; omega, fun e he => ?_⟩
      · rw [List.getElem_ofFn]
        exact (hf ⟨k, by simpa using hk⟩).1
      · obtain ⟨k, rfl⟩ := List.mem_ofFn.1 he
        exact (hf k).2
theorem ints_sl {H : Type} {enc : TypeId × Value → H} {W : World} {base fuel : Nat} {spare : Nat → Bool} {held : Bool} {v : Value} {x : DataW H × List MemPlace}
    (h : DataW.trod enc Tryd.prog W base spare held fuel 46 [v] = some x) : ∃ l : List Int, ISl W v l ∧ IArg l := by
  rcases open_ints Tryd.underlying46 Tryd.underlying3 cellsIntV h with ⟨hcs, _⟩ | ⟨a, len, cap, zs, hcs, _, hl, hm, hz, _, hcell, hw⟩
  · obtain rfl : v = .slice none 0 0 := by simpa using hcs
    exact ⟨[], .inl ⟨rfl, _, _, rfl⟩, by simp, by simp⟩
  · obtain rfl : v = .slice (some a) len cap := by simpa using hcs
    have hlen : len ≤ zs.length := by rw [hz]; split <;> omega
    refine ⟨zs.take len, ?_, by rw [List.length_take]; unfold maxLen at hm; omega, fun n hn => bounds_i64 (hw n (List.mem_of_mem_take hn))⟩
    rcases Nat.eq_zero_or_pos len with h0 | h0
    · subst h0; exact .inl ⟨by simp, _, _, rfl⟩
    · obtain ⟨b, o, rfl, hc⟩ := ints_at hcell (by omega)
      refine .inr ⟨b, o, cap, by rw [List.length_take, Nat.min_eq_left hlen], fun i hi => ?_⟩
      have hi' : i < len := by rw [List.length_take] at hi; omega
      rw [hc i (by omega), List.getElem_take]
      simp [List.getD, List.getElem?_eq_getElem (show i < zs.length by omega)]

end Go.Proofs.YtapdabebiinnnaaDoor
namespace Go.Proofs.YtapdabebiinnnaaDoor.lawViewBook
open Go.ChangeShapes Go.WideShapes Go.ChangeAt Go.RowKit
open Go.ChangeMaps (open_string)

set_option maxRecDepth 100000 in
theorem contract (H : Type) (enc : TypeId × Value → H) (W : World) (base : Nat) (args : Array Value) (ds gs : List (DataW H)) (before : List MemPlace)
    (hval : ∀ (j : Nat) t v, Tryd.f4.params[j]? = some t → args[j]? = some v → Value.okWide Tryd.prog W .any base t v)
    (hW : DataW.Whole enc Tryd.prog Tryd.f4.params.toList Rows.viewBookSpec.vars false W args.toList ds gs before) (hL : laidMetH Tryd.prog Rows.viewBookRow.laid W) :
    Calls Tryd.prog 4 args W fun e W' => ∃ v, e = .returned v ∧ Rows.viewBookSpec.post enc Tryd.prog Tryd.f4 false true false false W args v W' := by
  have hW' := hW
  have hlt : ∀ x ∈ before, x.block < W.heap.size := fun x hx => hW.lt x hx
  obtain ⟨p, q, hA0, hV, rfl, hfz, hnd⟩ := hW
  have hA : DataW.TrodAll enc Tryd.prog W 0 (fun _ => true) true Tryd.f4.params.toList args.toList ds p := hA0
  rw [Tryd.params4] at hA hval
  obtain ⟨al⟩ := args
  change DataW.TrodAll enc Tryd.prog W 0 (fun _ => true) true [3, 45, 46] al ds p at hA
  obtain ⟨v0, al0, D0, ds0, p0, q0, rfl, rfl, rfl, h0, t0⟩ := trodAll_cons hA
  obtain ⟨v1, al1, D1, ds1, p1, q1, rfl, rfl, rfl, h1, t1⟩ := trodAll_cons t0
  obtain ⟨v2, al2, D2, ds2, p2, q2, rfl, rfl, rfl, h2, t2⟩ := trodAll_cons t1
  obtain ⟨rfl, rfl, rfl⟩ : al2 = [] ∧ ds2 = [] ∧ q2 = [] := trodAll_nil t2
  obtain ⟨rfl, rfl⟩ := trodVars_none hV
  clear hA0
  simp only [List.append_nil] at hW' hlt
  obtain ⟨n0, rfl, _, _, hn0⟩ := open_int Tryd.underlying3 (hval 0 3 v0 rfl rfl) h0
  obtain ⟨a1, len1, cap1, e1⟩ := okWide_slice Tryd.underlying45 (hval 1 45 v1 rfl rfl)
  obtain ⟨fuel1, hf1⟩ := id h1
  have hg1 : DataW.trod enc Tryd.prog W 0 (fun _ => true) true fuel1 45 [v1] = some (D1, p1) := by rw [e1] at hf1 ⊢; simpa [Value.cells] using hf1
  obtain ⟨l1, hl1, ha1⟩ := turns_sl hg1
  obtain ⟨a2, len2, cap2, e2⟩ := okWide_slice Tryd.underlying46 (hval 2 46 v2 rfl rfl)
  obtain ⟨fuel2, hf2⟩ := id h2
  have hg2 : DataW.trod enc Tryd.prog W 0 (fun _ => true) true fuel2 46 [v2] = some (D2, p2) := by rw [e2] at hf2 ⊢; simpa [Value.cells] using hf2
  obtain ⟨l2, hl2, ha2⟩ := ints_sl hg2
  have walk := book_any v1 v2 l1 l2 n0 W (table hL) hl1 ha1 hl2 ha2
  refine walk.mono fun e W' ⟨he, hg⟩ => ?_
  subst he
  have hb := hg.below
  exact ⟨_, rfl, _, _, _, [], _, [], hW', trodAll_cons_mk (shut_bool Tryd.underlying4 _) trodAll_mk0, trodAll_cons_mk (Below.trod laidOut (by kernel_rfl) (of_decide_eq_true (by kernel_rfl)) h0 hb (fun x hx => hlt x (by simp [hx]))) (trodAll_cons_mk (Below.trod laidOut (by kernel_rfl) (of_decide_eq_true (by kernel_rfl)) h1 hb (fun x hx => hlt x (by simp [hx]))) (trodAll_cons_mk (Below.trod laidOut (by kernel_rfl) (of_decide_eq_true (by kernel_rfl)) h2 hb (fun x hx => hlt x (by simp [hx]))) (trodAll_mk0))), rfl, hb.frame _, fun h => by cases h⟩

set_option maxRecDepth 100000 in
theorem laid_met (os : Os) : laidMet Tryd.prog Rows.viewBookRow.laid ((laidWorld os).forCall (fun _ _ => 0) ⟨#[], #[.int .i64 0, .slice none 0 0, .slice none 0 0], []⟩).memory :=
  laidMet_of_run' 8 (by kernel_rfl) (by kernel_rfl)
theorem reads (os : Os) {H : Type} (enc : TypeId × Value → H) : ∃ places, DataW.whole enc Tryd.prog ((laidWorld os).forCall (fun _ _ => 0) ⟨#[], #[.int .i64 0, .slice none 0 0, .slice none 0 0], []⟩).memory Tryd.f4.params.toList Rows.viewBookSpec.vars false (#[.int .i64 0, .slice none 0 0, .slice none 0 0] : Array Value).toList 8 = some ([.lit (.int .i64 0), .nil, .nil], [], places) :=
  ⟨[], by kernel_rfl⟩

set_option maxRecDepth 100000 in
theorem lifted (os : Os) (started : os.Started) (H : Type) (enc : TypeId × Value → H) (F : Stop.Interp) :
    ReturnsInHanded {} Tryd.checked os 4 .any ((OpenSpec.ofChange Rows.viewBookSpec).preRow enc Tryd.prog Tryd.f4 Rows.viewBookRow.domain false Rows.viewBookRow.laid) (((OpenSpec.ofChange Rows.viewBookSpec).at F).post enc Tryd.prog Tryd.f4 false true false false) := by
  obtain ⟨places, hx⟩ := reads os enc
  refine returnsInHanded_of_row (C := Tryd.checked) (s := OpenSpec.ofChange Rows.viewBookSpec) ownKnobNone started (by kernel_rfl) Tryd.func4
    (witness_row_at (enc := enc) (C := Tryd.checked) false (laidWorld os) #[.int .i64 0, .slice none 0 0, .slice none 0 0] rfl (by kernel_rfl) (by kernel_rfl) (by kernel_rfl)
      (OpenSpec.preRow_of_cond 8 hx (by kernel_rfl) (fun k hk => by cases hk) (by kernel_rfl) (laid_met os))) ?_
  intro W base args ds gs before hval hW _ _ _ hL _ _
  exact contract H enc W base args ds gs before hval hW hL

theorem said : Rows.ViewBookSaid :=
  OpenClaim.holds_of_cond 4 Tryd.f4 rfl rfl rfl rfl rfl rfl rfl ⟨rfl, rfl, rfl, rfl, rfl⟩ rfl rfl rfl rfl rfl (by kernel_rfl) Tryd.func4 (by kernel_rfl)
    (of_decide_eq_true (by kernel_rfl)) (by unfold Func.isWrapper; first | (rw [if_pos (by decide +kernel)]; kernel_rfl) | (rw [if_neg (by decide +kernel)]; exact ⟨rfl, rfl⟩))
    (fun os started H enc _ F => by rw [OpenClaim.pre_eq_preRow]; exact lifted os started H enc F)

set_option maxRecDepth 100000 in
theorem plain (f : FuncId) (fn : Func) (hf : Tryd.pinned.checked.prog.funcNamed "lading/ladinglaw08.ViewBook" = some f) (hfn : Tryd.pinned.checked.prog.funcs[f]? = some fn) :
    false = Tryd.pinned.checked.prog.looks [] ∧ ∀ (j : Nat) t, fn.params[j]? = some t → Tryd.pinned.checked.prog.wantsStandIn t = false := by
  obtain rfl : f = 4 := Option.some.inj ((show Tryd.prog.funcNamed "lading/ladinglaw08.ViewBook" = some 4 by kernel_rfl).symm.trans hf) |>.symm
  obtain rfl : fn = Tryd.f4 := (Option.some.inj (Tryd.func4.symm.trans hfn)).symm
  refine ⟨by kernel_rfl, fun j t ht => ?_⟩
  rw [Tryd.params4] at ht
  have hm := Array.mem_of_getElem? ht
  simp at hm
  rcases hm with rfl | rfl | rfl <;> first | exact (show Tryd.prog.wantsStandIn 3 = false by kernel_rfl) | exact (show Tryd.prog.wantsStandIn 45 = false by kernel_rfl) | exact (show Tryd.prog.wantsStandIn 46 = false by kernel_rfl)

/-- The card. -/
theorem card : Rows.ViewBookCardSaid :=
  Claim7.holds_tied_plain_at .later [] _ _ _ _ said (fun _ h => by cases h) (by kernel_rfl) (fun _ h => by cases h) viewBook_row_tie rfl ⟨rfl, rfl⟩ (by kernel_rfl) rfl plain (by kernel_rfl)
end Go.Proofs.YtapdabebiinnnaaDoor.lawViewBook
