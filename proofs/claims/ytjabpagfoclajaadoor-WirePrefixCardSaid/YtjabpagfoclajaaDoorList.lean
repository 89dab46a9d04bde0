/-
  Reading lists: what the loops keep, apart from any program.
-/
import Derived.Test.YtjabpagfoclajaaDoorRdr2
import Derived.Maps.Range
namespace Go.Proofs.YtjabpagfoclajaaDoor
open Go.RowKit

/-- A slice of one-cell values in memory from block B on. -/
def IsSlB (B : Nat) (w : World) (v : Value) (xs : List Value) : Prop :=
  (xs = [] ∧ ∃ a c, v = .slice a 0 c) ∨ ∃ b o c, B ≤ b ∧ v = .slice (some ⟨b, o, none⟩) xs.length c ∧ ∀ i x, xs[i]? = some x → w.cell? ⟨b, o + i, none⟩ = some x
theorem IsSlB.sl {B : Nat} {w : World} {v : Value} {xs : List Value} (h : IsSlB B w v xs) : IsSl w v xs := by
  rcases h with h | ⟨b, o, c, _, hv, hc⟩
  · exact .inl h
  · exact .inr ⟨b, o, c, hv, hc⟩
theorem IsSlB.frb {B b : Nat} {w w' : World} {v : Value} {xs : List Value} (h : IsSlB B w v xs) (hf : FrB b w w') (hb : b < B) : IsSlB B w' v xs := by
  rcases h with h | ⟨g, o, c, hB, hv, hc⟩
  · exact .inl h
  · exact .inr ⟨g, o, c, hB, hv, fun i x hx => World.grownBy.cell hf (hc i x hx) (by simp; omega)⟩
theorem IsSlB.nil (B : Nat) (w : World) : IsSlB B w (.slice none 0 0) [] := .inl ⟨rfl, _, _, rfl⟩
theorem IsSlB.own {B e n : Nat} {w : World} {v : Value} {xs : List Value} (h : w.ownsRow B e 1 v n xs) : IsSlB B w v xs := by
  have hl := h.1
  rcases h.2 with ⟨rfl, rfl⟩ | ⟨g, cap, cur, rfl, hB, hg, hn, _, hs, ht⟩
  · exact .inl ⟨by simpa using hl, _, _, rfl⟩
  · refine .inr ⟨g, 0, cap, hB, by rw [hl, Nat.mul_one], fun i x hx => ?_⟩
    rw [Lib.cell_of_heap hg, Nat.zero_add]
    rw [← ht, List.getElem?_take] at hx
    split at hx
    · simpa using hx
    · cases hx

theorem FrB.grown {b : Nat} {w x y : World} {row : Option Nat} (h : FrB b w x) (hg : x.grownBy y row) (hr : ∀ k, row = some k → w.heap.size ≤ k) : FrB b w y :=
  World.grownBy.andThen h hg (fun j hj => .inl (hr j hj))
theorem FrB.alloc {b : Nat} {w x : World} (h : FrB b w x) (o : Obj) : FrB b w (x.alloc o) := h.trans ((Fr.alloc x o).frb b)
theorem Rd.grown {T b : Nat} {r : List UInt8} {f : Bool} {x y : World} {row : Option Nat} (h : Rd T b r f x) (hg : x.grownBy y row) (hr : some b ≠ row) : Rd T b r f y := by
  unfold Rd at h ⊢; rw [World.grownBy.block hg b (Array.getElem?_eq_some_iff.1 h).1 hr]; exact h
theorem FrB.size {b : Nat} {w x : World} (h : FrB b w x) : w.heap.size ≤ x.heap.size := World.grownBy.size h

section
variable {α : Type} (E : Wm.Enc α) (val : α → Value)
/-- The elements that were read so far, l, stand ahead of what is left; or the reader has failed, and no list of n elements stands there. -/
def Way (r1 rest : List UInt8) (fl : Bool) (n : Int) (k : Nat) (xs : List Value) : Prop :=
  (fl = false ∧ (k : Int) ≤ n ∧ ∃ l : List α, xs = l.map val ∧ (∀ x ∈ l, E.dom x) ∧ r1 = l.flatMap E.f ++ rest) ∨
  (fl = true ∧ rest = [] ∧ ∀ (m : List α) q, (m.length : Int) = n → (∀ x ∈ m, E.dom x) → r1 ≠ m.flatMap E.f ++ q)
def Lst (T b B e : Nat) (r1 : List UInt8) (n : Int) (w : World) (k : Nat) (v : Value) (wr : World) : Prop :=
  ∃ xs rest fl, xs.length = k ∧ wr.ownsRow B e 1 v k xs ∧ Rd T b rest fl wr ∧ FrB b w wr ∧ Way E val r1 rest fl n k xs

theorem Way.start {r1 : List UInt8} {n : Int} (hn : 0 ≤ n) : Way E val r1 r1 false n 0 [] := .inl ⟨rfl, hn, [], rfl, by simp, by simp⟩
variable {E val}
theorem Way.good {r1 rest rest' : List UInt8} {n : Int} {k : Nat} {xs : List Value} (h : Way E val r1 rest false n k xs) (hlt : (k : Int) < n) {x : α} (hx : E.dom x) (he : rest = E.f x ++ rest') : Way E val r1 rest' false n (k + 1) (xs ++ [val x]) := by
  rcases h with ⟨_, _, l, rfl, hl, hr⟩ | ⟨h, _⟩
  · refine .inl ⟨rfl, by omega, l ++ [x], by simp, ?_, ?_⟩
    · intro y hy
      rcases List.mem_append.1 hy with h | h
      · exact hl y h
      · simp only [List.mem_singleton] at h; subst h; exact hx
    · rw [hr, he]; simp
  · cases h
theorem Way.bad (hE : E.Pf) {r1 rest : List UInt8} {n : Int} {k : Nat} {xs xs' : List Value} (h : Way E val r1 rest false n k xs) (hk : xs.length = k) (hlt : (k : Int) < n) (he : ∀ x q, E.dom x → rest ≠ E.f x ++ q) : Way E val r1 [] true n (k + 1) xs' := by
  rcases h with ⟨_, _, l, rfl, hl, hr⟩ | ⟨h, _⟩
  · refine .inr ⟨rfl, rfl, fun m q hm hd e => ?_⟩
    rw [List.length_map] at hk
    have h1 : k < m.length := by omega
    have hs : m.flatMap E.f ++ q = (m.take k).flatMap E.f ++ (E.f m[k] ++ ((m.drop (k + 1)).flatMap E.f ++ q)) := by
      rw [show m.flatMap E.f = (m.take k ++ m[k] :: m.drop (k + 1)).flatMap E.f from by rw [← Wm.split_take m k h1]]
      simp only [List.flatMap_append, List.flatMap_cons, List.append_assoc]
    rw [hr, hs] at e
    obtain ⟨_, h3⟩ := Wm.flat_pf hE l (m.take k) _ _ (by rw [List.length_take]; omega) hl (fun x hx => hd x (List.mem_of_mem_take hx)) e
    exact he _ _ (hd _ (List.getElem_mem h1)) h3
  · cases h
/-- Behind the loop, all elements read: the list stands there if the closing byte follows. -/
theorem Way.done {r r1 rest r' : List UInt8} {n : Int} {k : Nat} {xs : List Value} (h : Way E val r1 rest false n k xs) (hk : xs.length = k) (hge : ¬ (k : Int) < n) (hn : Wm.inNum n) (hr : r = (Wm.numE 91).f n ++ r1) (hc : rest = 93 :: r') :
    ∃ l, (Wm.listE E).dom l ∧ xs = l.map val ∧ r = (Wm.listE E).f l ++ r' := by
  rcases h with ⟨_, h1, l, rfl, hl, hr1⟩ | ⟨h, _⟩
  · rw [List.length_map] at hk
    have hnl : n = (l.length : Int) := by omega
    refine ⟨l, ⟨by have := hn.2; omega, hl⟩, rfl, ?_⟩
    rw [hr, hr1, hc, Wm.listE_f, Wm.numE_f, hnl]; simp
  · cases h
theorem list_none {r : List UInt8} (h : ∀ v q, (Wm.numE 91).dom v → r ≠ (Wm.numE 91).f v ++ q) : ∀ l q, (Wm.listE E).dom l → r ≠ (Wm.listE E).f l ++ q := by
  intro l q hl e
  refine h l.length (l.flatMap E.f ++ 93 :: q) ⟨by omega, by have := hl.1; omega⟩ ?_
  rw [e, Wm.listE_f, Wm.numE_f]; simp
theorem list_split {r r1 : List UInt8} {n : Int} (hr : r = (Wm.numE 91).f n ++ r1) {l : List α} {q : List UInt8} (e : r = (Wm.listE E).f l ++ q) : n = (l.length : Int) ∧ r1 = l.flatMap E.f ++ 93 :: q := by
  rw [hr, Wm.numE_f, Wm.listE_f] at e
  obtain ⟨h1, _, h3⟩ := Wm.itoa_split (e := 91) (f := 91) (r := r1) (s := l.flatMap E.f ++ 93 :: q) (by decide) (by decide) (by simpa using e)
  exact ⟨h1, h3⟩
theorem Way.fail1 (hE : E.Pf) {r r1 rest : List UInt8} {n : Int} {k : Nat} {xs : List Value} (h : Way E val r1 rest false n k xs) (hk : xs.length = k) (hge : ¬ (k : Int) < n) (hr : r = (Wm.numE 91).f n ++ r1) (hc : ∀ r', rest ≠ 93 :: r') :
    ∀ l q, (Wm.listE E).dom l → r ≠ (Wm.listE E).f l ++ q := by
  intro l q hl e
  obtain ⟨h1, h2⟩ := list_split hr e
  rcases h with ⟨_, h3, l', rfl, hl', hr1⟩ | ⟨h, _⟩
  · rw [List.length_map] at hk
    rw [hr1] at h2
    obtain ⟨_, h5⟩ := Wm.flat_pf hE l' l _ _ (by omega) hl' hl.2 h2
    exact hc q h5
  · cases h
theorem Way.fail2 {r r1 rest : List UInt8} {n : Int} {k : Nat} {xs : List Value} (h : Way E val r1 rest true n k xs) (hr : r = (Wm.numE 91).f n ++ r1) :
    ∀ l q, (Wm.listE E).dom l → r ≠ (Wm.listE E).f l ++ q := by
  intro l q hl e
  obtain ⟨h1, h2⟩ := list_split hr e
  rcases h with ⟨h, _⟩ | ⟨_, _, h3⟩
  · cases h
  · exact h3 l (93 :: q) (by omega) hl.2 h2
theorem Way.nil {r1 rest : List UInt8} {n : Int} {k : Nat} {xs : List Value} (h : Way E val r1 rest true n k xs) : rest = [] := by
  rcases h with ⟨h, _⟩ | ⟨_, h, _⟩
  · cases h
  · exact h
theorem flat_ge (hne : ∀ x, E.f x ≠ []) (l : List α) : l.length ≤ (l.flatMap E.f).length := by
  induction l with
  | nil => simp
  | cons x l ih =>
    have := List.length_pos_iff.2 (hne x)
    simp only [List.flatMap_cons, List.length_append, List.length_cons]; omega
theorem Way.count (hne : ∀ x, E.f x ≠ []) {r1 rest : List UInt8} {n : Int} {k : Nat} {xs : List Value} (h : Way E val r1 rest false n k xs) (hk : xs.length = k) : k + rest.length ≤ r1.length := by
  rcases h with ⟨_, _, l, rfl, _, hr⟩ | ⟨h, _⟩
  · rw [List.length_map] at hk
    have := flat_ge hne l
    rw [hr, List.length_append]; omega
  · cases h
end

/-- What a method that reads a list comes to. -/
def GotL {α : Type} (T b B : Nat) (E : Wm.Enc α) (val : α → Value) (r : List UInt8) (f : Bool) (e : Ending) (w' : World) : Prop :=
  (∃ l r' v, (Wm.listE E).dom l ∧ r = (Wm.listE E).f l ++ r' ∧ e = .returned v ∧ IsSlB B w' v (l.map val) ∧ Rd T b r' f w') ∨
  ((∀ l q, (Wm.listE E).dom l → r ≠ (Wm.listE E).f l ++ q) ∧ e = .returned (.slice none 0 0) ∧ Rd T b [] true w')
end Go.Proofs.YtjabpagfoclajaaDoor
