/-
  What the proofs of the View rows share: the arguments opened.
-/
import Derived.Test.YtapdabebiinnnaaRows
import Derived.Test.YtapdabebiinnnaaVn
import Derived.ProofKit
import Derived.OpenShut
import Derived.Deep.DeepHandedRow
import Derived.Deep.Slices
import Derived.Deep.Fields
import Derived.ChangeSame
import Derived.Lib.SmallJoins
namespace Go.Proofs.Ytapdabebiinnnaa
open Go.ChangeShapes Go.WideShapes Go.ChangeAt Go.RowKit Go.Joins Go.Deep
open Go.ChangeMaps (open_string)

theorem ownKnobNone : ownKnob Try.prog.godebug = none := by kernel_rfl
theorem laidOut : laidOutB Try.prog = true := by kernel_rfl
theorem cellsSay : Try.prog.cellsOf 62 = 7 := by kernel_rfl

theorem cellsIntV : Try.prog.cellsOf 3 = 1 := by kernel_rfl
theorem cellsStr' : Try.prog.cellsOf 9 = 1 := by kernel_rfl
theorem cellsClm : Try.prog.cellsOf 60 = 4 := by kernel_rfl
theorem seven {α : Type} {l : List α} (h : l.length = 7) : ∃ a b c d e f g, l = [a, b, c, d, e, f, g] := by
  match l, h with
  | [a, b, c, d, e, f, g], _ => exact ⟨a, b, c, d, e, f, g, rfl⟩
/-- A Say that was read. -/
theorem say_at {H : Type} {enc : TypeId × Value → H} {W : World} {base n base2 : Nat} {spare : Nat → Bool} {held : Bool} {b o : Nat} {i : Nat} {cs : List Value} {y : DataW H × List MemPlace}
    (hc : W.cells? base2 ((⟨b, o, none⟩ : Addr).add (i * 7)) 7 = some cs) (h : DataW.trod enc Try.prog W base spare held n 62 cs = some y) :
    ∃ u : Sy, SyIn W b (o + i * 7) u ∧ u.ok := by
  obtain ⟨_, hlen, hat⟩ := World.cells?_some hc
  obtain ⟨v0, v1, v2, v3, v4, v5, v6, rfl⟩ := seven hlen
  obtain ⟨ys, n1, _, _, _, hyl, hf⟩ := DataW.trod_struct Try.underlying62 h
  have hyl : ys.length = 4 := hyl
  have g0 : DataW.trod enc Try.prog W base spare held n1 3 [v0] = some (ys[0]'(by omega)) := by
    have g : DataW.trod enc Try.prog W base spare held n1 3 (([v0, v1, v2, v3, v4, v5, v6].drop 0).take (Try.prog.cellsOf 3)) = ys[0]? := hf 0 _ rfl
    rw [cellsIntV, List.getElem?_eq_getElem (by omega)] at g; exact g
  have g1 : DataW.trod enc Try.prog W base spare held n1 60 [v1, v2, v3, v4] = some (ys[1]'(by omega)) := by
    have g : DataW.trod enc Try.prog W base spare held n1 60 (([v0, v1, v2, v3, v4, v5, v6].drop 1).take (Try.prog.cellsOf 60)) = ys[1]? := hf 1 _ rfl
    rw [cellsClm, List.getElem?_eq_getElem (by omega)] at g; exact g
  have g2 : DataW.trod enc Try.prog W base spare held n1 9 [v5] = some (ys[2]'(by omega)) := by
    have g : DataW.trod enc Try.prog W base spare held n1 9 (([v0, v1, v2, v3, v4, v5, v6].drop 5).take (Try.prog.cellsOf 9)) = ys[2]? := hf 2 _ rfl
    rw [cellsStr', List.getElem?_eq_getElem (by omega)] at g; exact g
  have g3 : DataW.trod enc Try.prog W base spare held n1 3 [v6] = some (ys[3]'(by omega)) := by
    have g : DataW.trod enc Try.prog W base spare held n1 3 (([v0, v1, v2, v3, v4, v5, v6].drop 6).take (Try.prog.cellsOf 3)) = ys[3]? := hf 3 _ rfl
    rw [cellsIntV, List.getElem?_eq_getElem (by omega)] at g; exact g
  obtain ⟨zs, n2, _, _, _, hzl, hz⟩ := DataW.trod_struct Try.underlying60 g1
  have hzl : zs.length = 4 := hzl
  have k0 : DataW.trod enc Try.prog W base spare held n2 3 [v1] = some (zs[0]'(by omega)) := by
    have g : DataW.trod enc Try.prog W base spare held n2 3 (([v1, v2, v3, v4].drop 0).take (Try.prog.cellsOf 3)) = zs[0]? := hz 0 _ rfl
    rw [cellsIntV, List.getElem?_eq_getElem (by omega)] at g; exact g
  have k1 : DataW.trod enc Try.prog W base spare held n2 3 [v2] = some (zs[1]'(by omega)) := by
    have g : DataW.trod enc Try.prog W base spare held n2 3 (([v1, v2, v3, v4].drop 1).take (Try.prog.cellsOf 3)) = zs[1]? := hz 1 _ rfl
    rw [cellsIntV, List.getElem?_eq_getElem (by omega)] at g; exact g
  have k2 : DataW.trod enc Try.prog W base spare held n2 3 [v3] = some (zs[2]'(by omega)) := by
    have g : DataW.trod enc Try.prog W base spare held n2 3 (([v1, v2, v3, v4].drop 2).take (Try.prog.cellsOf 3)) = zs[2]? := hz 2 _ rfl
    rw [cellsIntV, List.getElem?_eq_getElem (by omega)] at g; exact g
  have k3 : DataW.trod enc Try.prog W base spare held n2 9 [v4] = some (zs[3]'(by omega)) := by
    have g : DataW.trod enc Try.prog W base spare held n2 9 (([v1, v2, v3, v4].drop 3).take (Try.prog.cellsOf 9)) = zs[3]? := hz 3 _ rfl
    rw [cellsStr', List.getElem?_eq_getElem (by omega)] at g; exact g
  obtain ⟨x0, e0, _, w0⟩ := DataW.trod_int Try.underlying3 g0
  obtain ⟨x1, e1, _, w1⟩ := DataW.trod_int Try.underlying3 k0
  obtain ⟨x2, e2, _, w2⟩ := DataW.trod_int Try.underlying3 k1
  obtain ⟨x3, e3, _, w3⟩ := DataW.trod_int Try.underlying3 k2
  obtain ⟨x4, e4, _, w4⟩ := DataW.trod_string Try.underlying9 k3
  obtain ⟨x5, e5, _, w5⟩ := DataW.trod_string Try.underlying9 g2
  obtain ⟨x6, e6, _, w6⟩ := DataW.trod_int Try.underlying3 g3
  simp only [List.cons.injEq, and_true] at e0 e1 e2 e3 e4 e5 e6
  subst e0 e1 e2 e3 e4 e5 e6
  have ha : ∀ j, ((⟨b, o, none⟩ : Addr).add (i * 7)).add j = ⟨b, o + i * 7 + j, none⟩ := fun j => by unfold Addr.add; repeat' split <;> simp_all [Nat.add_assoc]
  have q0 := hat 0 (by omega)
  have q1 := hat 1 (by omega)
  have q2 := hat 2 (by omega)
  have q3 := hat 3 (by omega)
  have q4 := hat 4 (by omega)
  have q5 := hat 5 (by omega)
  have q6 := hat 6 (by omega)
  rw [ha] at q0 q1 q2 q3 q4 q5 q6
  have hs4 : x4.data.toList.length ≤ 9223372036854775807 := by rw [Array.length_toList]; exact (show x4.size ≤ 9223372036854775807 by unfold maxLen at w4; omega)
  have hs5 : x5.data.toList.length ≤ 9223372036854775807 := by rw [Array.length_toList]; exact (show x5.size ≤ 9223372036854775807 by unfold maxLen at w5; omega)
  refine ⟨(x0, ⟨x1, x2, x3, x4.data.toList⟩, x5.data.toList, x6), ⟨q0, q1, q2, q3, ?_, ?_, q6⟩, bounds_i64 w0, ⟨bounds_i64 w1, bounds_i64 w2, bounds_i64 w3, hs4⟩, hs5, bounds_i64 w6⟩
  · rw [q4]; show some (Value.string x4) = some (Value.string (S x4.data.toList)); rw [← S_eta]
  · rw [q5]; show some (Value.string x5) = some (Value.string (S x5.data.toList)); rw [← S_eta]
theorem says_sl {H : Type} {enc : TypeId × Value → H} {W : World} {base fuel : Nat} {spare : Nat → Bool} {held : Bool} {v : Value} {x : DataW H × List MemPlace}
    (h : DataW.trod enc Try.prog W base spare held fuel 22 [v] = some x) : ∃ l : List Sy, SySl W v l ∧ SArg l := by
  rcases open_slice Try.underlying22 h with ⟨hcs, _⟩ | ⟨a, len, cap, m, n, D, Pl, hcs, _, hl, hm, hmm, _, hi⟩
  · obtain rfl : v = .slice none 0 0 := by simpa using hcs
    exact ⟨[], .inl ⟨rfl, _, _, rfl⟩, by simp, by simp⟩
  · obtain rfl : v = .slice (some a) len cap := by simpa using hcs
    have hlm : len ≤ m := by rw [hmm]; split <;> omega
    rw [cellsSay] at hi
    rcases Nat.eq_zero_or_pos len with h0 | h0
    · subst h0; exact ⟨[], .inl ⟨rfl, _, _, rfl⟩, by simp, by simp⟩
    · obtain ⟨b, o, spot⟩ := a
      obtain ⟨cs0, hc0, ht0⟩ := hi 0 (by omega)
      have hspot : spot = none := by
        obtain ⟨_, hln, hat⟩ := World.cells?_some hc0
        obtain ⟨v0, v1, v2, v3, v4, v5, v6, rfl⟩ := seven hln
        have := hat 0 (by omega)
        simpa [Addr.add] using World.cell?_spot this
      subst hspot
      have hex : ∀ k : Fin len, ∃ u : Sy, SyIn W b (o + k.val * 7) u ∧ u.ok := fun k => by
        obtain ⟨cs, hc, ht⟩ := hi k.val (by omega)
        exact say_at hc ht
      have hch : ∃ f : Fin len → Sy, ∀ k, SyIn W b (o + k.val * 7) (f k) ∧ (f k).ok := ⟨fun k => (hex k).choose, fun k => (hex k).choose_spec⟩
      obtain ⟨f, hf⟩ := hch
      refine ⟨List.ofFn f, .inr ⟨b, o, cap, by simp, fun k hk => ?_⟩, by simp; unfold maxLen at hm; omega, fun e he => ?_⟩
      · rw [List.getElem_ofFn]
        exact (hf ⟨k, by simpa using hk⟩).1
      · obtain ⟨k, rfl⟩ := List.mem_ofFn.1 he
        exact (hf k).2
end Go.Proofs.Ytapdabebiinnnaa
