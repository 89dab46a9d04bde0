/-
  What lies in memory (Thing, sep, Has), as for layer 5; a disk as such a thing.
-/
import Derived.Test.YtpjoekjakjajcaaPl
import Derived.Deep.AppendLies
import Derived.Laws.AppendOwnNone
namespace Go.Proofs.Ytpjoekjakjajcaa
open Go.RowKit

theorem own_base {w : World} {base e size n : Nat} {v : Value} {xs : List Value} (h : w.ownsRow base e size v n xs) {b : Nat} (hb : b ≤ base) : w.ownsRow b e size v n xs := by
  refine ⟨h.1, ?_⟩
  rcases h.2 with hn | ⟨g, cap, cur, h1, h2, h3⟩
  · exact .inl hn
  · exact .inr ⟨g, cap, cur, h1, by omega, h3⟩

/-! ### What lies in memory -/
/-- Something that lies in the blocks of O, and hangs on nothing else. -/
structure Thing where
  at_ : World → (Nat → Prop) → Prop
  bound : ∀ {w O}, at_ w O → ∀ k, O k → k < w.heap.size
  frame : ∀ {w w' O}, at_ w O → w.heap.size ≤ w'.heap.size → (∀ k, O k → w'.heap[k]? = w.heap[k]?) → at_ w' O
theorem Thing.fr (T : Thing) {w w' : World} {O : Nat → Prop} (h : T.at_ w O) (hf : Fr w w') : T.at_ w' O := T.frame h hf.size fun k hk => hf.block (T.bound h k hk)
theorem Thing.kept (T : Thing) {w w' : World} {O O1 : Nat → Prop} (h : T.at_ w O) (ho : Own O1 w w') (hd : ∀ k, O k → ¬ O1 k) : T.at_ w' O := T.frame h ho.size fun k hk => ho.block k (T.bound h k hk) (hd k hk)
/-- A step of what lay in O: it is T now. -/
def Thing.step (T : Thing) (O : Nat → Prop) (w w' : World) : Prop := ∃ O', T.at_ w' O' ∧ (∀ k, O' k → Gr O w w' k) ∧ Own O w w'
theorem Thing.step_fr {T : Thing} {O : Nat → Prop} {w w' : World} (h : T.at_ w O) (hf : Fr w w') : T.step O w w' := ⟨O, T.fr h hf, fun _ h => .inl h, .of_fr hf⟩
theorem Thing.step_trans {T : Thing} {O O1 : Nat → Prop} {a b c : World} (hG : ∀ k, O1 k → Gr O a b k) (hW : Own O a b) (h : T.step O1 b c) : T.step O a c :=
  let ⟨O2, h2, g2, w2⟩ := h
  ⟨O2, h2, fun k hk => Gr.trans hW.size w2.size hG k (g2 k hk), hW.trans hG w2⟩
theorem Thing.step_right {T : Thing} {O : Nat → Prop} {a b c : World} (h : T.step O a b) (hf : Fr b c) : T.step O a c :=
  let ⟨_, h1, g1, w1⟩ := h
  Thing.step_trans g1 w1 (Thing.step_fr h1 hf)
theorem Thing.step_left {T : Thing} {O : Nat → Prop} {a b c : World} (hf : Fr a b) (h : T.step O b c) : T.step O a c := Thing.step_trans (fun _ h => .inl h) (.of_fr hf) h

/-- Both, beside each other. -/
def Thing.sep (T U : Thing) : Thing where
  at_ w O := ∃ O1 O2, T.at_ w O1 ∧ U.at_ w O2 ∧ (∀ k, O1 k → ¬ O2 k) ∧ ∀ k, O k ↔ O1 k ∨ O2 k
  bound h k hk := by
    obtain ⟨O1, O2, h1, h2, _, h4⟩ := h
    rcases (h4 k).1 hk with h | h
    · exact T.bound h1 k h
    · exact U.bound h2 k h
  frame h hs hw := by
    obtain ⟨O1, O2, h1, h2, h3, h4⟩ := h
    exact ⟨O1, O2, T.frame h1 hs fun k hk => hw k ((h4 k).2 (.inl hk)), U.frame h2 hs fun k hk => hw k ((h4 k).2 (.inr hk)), h3, h4⟩
/-- Nothing. -/
def Thing.emp : Thing where
  at_ _ O := ∀ k, ¬ O k
  bound h k hk := absurd hk (h k)
  frame h _ _ := h
/-- T lies in memory that has come since W; all else is as it was then. -/
def Has (W w : World) (T : Thing) : Prop := Fr W w ∧ ∃ O, T.at_ w O ∧ ∀ k, O k → W.heap.size ≤ k
theorem Has.here (w : World) : Has w w .emp := ⟨Fr.refl w, fun _ => False, fun _ h => h, fun _ h => h.elim⟩
theorem Has.toFr {W w : World} {T : Thing} (h : Has W w T) : Fr W w := h.1
theorem Has.fr {W w w' : World} {T : Thing} (h : Has W w T) (hf : Fr w w') : Has W w' T := let ⟨h1, O, h2, h3⟩ := h; ⟨h1.trans hf, O, T.fr h2 hf, h3⟩
/-- Open one of two for a step. -/
theorem Has.open {W w : World} {T U : Thing} (h : Has W w (T.sep U)) : ∃ O, T.at_ w O ∧ (∀ k, O k → W.heap.size ≤ k) ∧ ∀ w' (T' : Thing), T'.step O w w' → Has W w' (T'.sep U) := by
  obtain ⟨hf, O, ⟨O1, O2, h1, h2, h3, h4⟩, hO⟩ := h
  refine ⟨O1, h1, fun k hk => hO k ((h4 k).2 (.inl hk)), fun w' T' hs => ?_⟩
  obtain ⟨O', ht, hg, hw⟩ := hs
  refine ⟨hf.of_own (fun k hk => hO k ((h4 k).2 (.inl hk))) hw, fun k => O' k ∨ O2 k, ⟨O', O2, ht, U.kept h2 hw (fun k hk hk' => h3 k hk' hk), fun k hk hk' => ?_, fun k => Iff.rfl⟩, fun k hk => ?_⟩
  · rcases hg k hk with h | ⟨h, _⟩
    · exact h3 k h hk'
    · exact absurd (U.bound h2 k hk') (by omega)
  · rcases hk with hk | hk
    · rcases hg k hk with h | ⟨h, _⟩
      · exact hO k ((h4 k).2 (.inl h))
      · exact Nat.le_trans hf.size h
    · exact hO k ((h4 k).2 (.inr hk))
theorem Has.comm {W w : World} {T U : Thing} (h : Has W w (T.sep U)) : Has W w (U.sep T) := by
  obtain ⟨hf, O, ⟨O1, O2, h1, h2, h3, h4⟩, hO⟩ := h
  exact ⟨hf, O, ⟨O2, O1, h2, h1, fun k hk hk' => h3 k hk' hk, fun k => (h4 k).trans Or.comm⟩, hO⟩
theorem Has.left {W w : World} {T U : Thing} (h : Has W w (T.sep U)) : Has W w T := by
  obtain ⟨hf, O, ⟨O1, O2, h1, h2, h3, h4⟩, hO⟩ := h
  exact ⟨hf, O1, h1, fun k hk => hO k ((h4 k).2 (.inl hk))⟩
theorem Has.right {W w : World} {T U : Thing} (h : Has W w (T.sep U)) : Has W w U := h.comm.left
/-- T, (U, V) becomes U, (T, V). -/
theorem Has.turn {W w : World} {T U V : Thing} (h : Has W w (T.sep (U.sep V))) : Has W w (U.sep (T.sep V)) := by
  obtain ⟨hf, O, ⟨O1, O2, h1, ⟨O3, O4, h5, h6, h7, h8⟩, h3, h4⟩, hO⟩ := h
  refine ⟨hf, O, ⟨O3, fun k => O1 k ∨ O4 k, h5, ⟨O1, O4, h1, h6, fun k hk hk' => h3 k hk ((h8 k).2 (.inr hk')), fun k => Iff.rfl⟩, fun k hk hk' => ?_, fun k => ?_⟩, hO⟩
  · rcases hk' with hk' | hk'
    · exact h3 k hk' ((h8 k).2 (.inl hk))
    · exact h7 k hk hk'
  · rw [h4 k, h8 k]
    constructor
    · rintro (h | h | h)
      · exact .inr (.inl h)
      · exact .inl h
      · exact .inr (.inr h)
    · rintro (h | h | h)
      · exact .inr (.inl h)
      · exact .inl h
      · exact .inr (.inr h)
/-- Something new beside it. -/
theorem Has.new {W w w' : World} {T U : Thing} (h : Has W w U) (hs : T.step (fun _ => False) w w') : Has W w' (T.sep U) := by
  obtain ⟨hf, O, hu, hO⟩ := h
  obtain ⟨O', ht, hg, hw⟩ := hs
  have hn : ∀ k, O' k → w.heap.size ≤ k := fun k hk => by
    rcases hg k hk with h3 | h3
    · exact h3.elim
    · exact h3.1
  refine ⟨hf.of_own (fun _ h => h.elim) hw, fun k => O' k ∨ O k, ⟨O', O, ht, U.kept hu hw (fun _ _ h => h), fun k hk hk' => absurd (U.bound hu k hk') (by have := hn k hk; omega), fun _ => Iff.rfl⟩, fun k hk => ?_⟩
  rcases hk with hk | hk
  · exact Nat.le_trans hf.size (hn k hk)
  · exact hO k hk
/-- A row that belongs to the proof. -/
def RowT (e size : Nat) (v : Value) (n : Nat) (xs : List Value) : Thing where
  at_ w O := w.ownsRow 0 e size v n xs ∧ ∀ k, O k ↔ v.ownBlock = some k
  bound h k hk := (h.1.lt k ((h.2 k).1 hk)).2
  frame h _ hw := ⟨ownsRow_heap h.1 fun p hp => hw p ((h.2 p).2 hp), h.2⟩
theorem RowT.nil (w : World) (e size : Nat) : (RowT e size (.slice none 0 0) 0 []).at_ w (fun _ => False) := ⟨⟨by simp, .inl ⟨rfl, rfl⟩⟩, fun k => by simp [Value.ownBlock]⟩
/-- A row that has just been made. -/
theorem RowT.made {w w' : World} {e size n : Nat} {v : Value} {xs : List Value} (h : w'.ownsRow w.heap.size e size v n xs) (hf : Fr w w') : (RowT e size v n xs).step (fun _ => False) w w' :=
  ⟨fun k => v.ownBlock = some k, ⟨own_base h (Nat.zero_le _), fun _ => Iff.rfl⟩, fun k hk => .inr (h.lt k hk), .of_fr hf⟩
/-- What append makes of it. -/
theorem RowT.app {w w' : World} {O : Nat → Prop} {e size n m : Nat} {v v' : Value} {xs ys : List Value} (h : (RowT e size v n xs).at_ w O) (ho : w'.ownsRow 0 e size v' m ys) (hg : w.grownBy w' v.ownBlock)
    (hb : ∀ p, v'.ownBlock = some p → v.ownBlock = some p ∨ w.heap.size ≤ p) : (RowT e size v' m ys).step O w w' :=
  ⟨fun k => v'.ownBlock = some k, ⟨ho, fun _ => Iff.rfl⟩, fun k hk => by
    rcases hb k hk with h1 | h1
    · exact .inl ((h.2 k).2 h1)
    · exact .inr ⟨h1, (ho.lt k hk).2⟩, (Own.refl O w).grown hg fun p hp => .inl ((h.2 p).2 hp)⟩
/-- A block of cells that belongs to the proof. -/
def BoxT (t : TypeId) (B : Nat) (C : Array Value) : Thing where
  at_ w O := w.heap[B]? = some (.cells C t (0, 0)) ∧ ∀ k, O k ↔ k = B
  bound h k hk := by rw [(h.2 k).1 hk]; exact (Array.getElem?_eq_some_iff.1 h.1).1
  frame h _ hw := ⟨by rw [hw B ((h.2 B).2 rfl)]; exact h.1, h.2⟩
theorem Has.box {W w : World} {U : Thing} (h : Has W w U) (t : TypeId) (C : Array Value) : Has W (w.alloc (.cells C t)) ((BoxT t w.heap.size C).sep U) :=
  h.new ⟨fun k => k = w.heap.size, ⟨heap_alloc_new w _, fun _ => Iff.rfl⟩, fun k hk => .inr (by simp [hk]), .of_fr (Fr.alloc w _)⟩
theorem Has.boxed {W w : World} {t : TypeId} {B : Nat} {C : Array Value} {U : Thing} (h : Has W w ((BoxT t B C).sep U)) : w.heap[B]? = some (.cells C t (0, 0)) := by
  obtain ⟨O, hT, _, _⟩ := h.open
  exact hT.1
theorem Has.row {W w : World} {e size n : Nat} {v : Value} {xs : List Value} {U : Thing} (h : Has W w ((RowT e size v n xs).sep U)) : w.ownsRow 0 e size v n xs := by
  obtain ⟨O, hT, _, _⟩ := h.open
  exact hT.1

theorem Has.set {W w : World} {t : TypeId} {B : Nat} {C : Array Value} {U : Thing} (h : Has W w ((BoxT t B C).sep U)) (i : Nat) (v : Value) : Has W (w.setCell ⟨B, i, none⟩ v) ((BoxT t B (C.setIfInBounds i v)).sep U) := by
  obtain ⟨O, hT, _, hb⟩ := h.open
  refine hb _ _ ⟨O, ⟨heapB hT.1, hT.2⟩, fun _ h => .inl h, ?_⟩
  exact (Own.refl O w).only (OnlyB.setCell w B i v) (.inl ((hT.2 B).2 rfl))
theorem Has.nilRow {W w : World} {U : Thing} (h : Has W w U) (e size : Nat) : Has W w ((RowT e size (.slice none 0 0) 0 []).sep U) :=
  h.new ⟨fun _ => False, RowT.nil w e size, fun _ h => h.elim, .refl _ w⟩
theorem Has.app {W w w' : World} {e size n m : Nat} {v v' : Value} {xs ys : List Value} {U : Thing} (h : Has W w ((RowT e size v n xs).sep U)) (ho : w'.ownsRow 0 e size v' m ys) (hg : w.grownBy w' v.ownBlock)
    (hb : ∀ p, v'.ownBlock = some p → v.ownBlock = some p ∨ w.heap.size ≤ p) : Has W w' ((RowT e size v' m ys).sep U) := by
  obtain ⟨O, hT, _, hk⟩ := h.open
  exact hk _ _ (RowT.app hT ho hg hb)
theorem wpList_app_from {w : World} {ops : Array Oper} {rest : List Oper} {o : Oper} {a : Act} {Q : Exit → Act → World → Prop} (hgd : o.guard = none) (s x : Operand) (t : TypeId)
    (ho : o.op = .call { callee := .builtin .append, args := #[s, x], argTypes := #[t, t] })
    (e : TypeId) (i : TypeInfo) (z : Value) (size bytes : Nat) (ht : Try.prog.underlying t = some (.slice e)) (hi : Try.prog.info? e = some i) (hz : i.zero = some z)
    (hsize : i.size = size) (hby : i.bytes = bytes) (hzs : z.cells.size = size) (hsz : 0 < size)
    {W : World} {U : Thing} {v : Value} {n : Nat} {xs : List Value} (hs : a.eval s = v) (h : Has W w ((RowT e size v n xs).sep U))
    (ad : Addr) (m c : Nat) (news : List Value) (hx : a.eval x = .slice (some ad) m c) (hl : news.length = m * size) (hnews : ∀ j u, news[j]? = some u → w.cell? (ad.add j) = some u) (h1 : ∀ u ∈ news, u.oneCell' = true)
    (hm : 0 < m) (h63 : n + m ≤ 1000000) (hb : bytes ≤ 1000)
    (hK : ∀ g cap w', Has W w' ((RowT e size (.slice (some ⟨g, 0, none⟩) (n + m) cap) (n + m) (xs ++ news)).sep U) → wpList Try.prog ops Q rest (a.put o.dst (.slice (some ⟨g, 0, none⟩) (n + m) cap)) w') :
    wpList Try.prog ops Q (o :: rest) a w := by
  have hmul : (n + m) * bytes ≤ 1000000 * 1000 := Nat.mul_le_mul h63 hb
  refine wpList_append_lies _ hgd s x t ho 0 e i z size bytes ht hi hz hsize hby hzs hsz v n xs hs h.row ad m c news hx hl hnews h1 hm (by unfold maxLen; omega) (by omega) (Nat.zero_le _) _ rfl ?_
  intro g cap w' hown hgrow hat _
  refine hK g cap w' (h.app hown hgrow fun p hp => ?_)
  simp only [Value.ownBlock, Option.some.injEq] at hp
  subst hp
  rcases hat with h | h
  · exact .inl h
  · exact .inr (Nat.le_of_eq h.symm)
theorem wpList_app {w0 : World} {ops : Array Oper} {rest : List Oper} {o : Oper} {a : Act} {Q : Exit → Act → World → Prop} (hgd : o.guard = none) (s x : Operand) (t : TypeId)
    (ho : o.op = .call { callee := .builtin .append, args := #[s, x], argTypes := #[t, t] })
    (e : TypeId) (i : TypeInfo) (z : Value) (size bytes : Nat) (ht : Try.prog.underlying t = some (.slice e)) (hi : Try.prog.info? e = some i) (hz : i.zero = some z)
    (hsize : i.size = size) (hby : i.bytes = bytes) (hzs : z.cells.size = size) (hsz : 0 < size)
    {W : World} {U : Thing} {v : Value} {n : Nat} {xs : List Value} (hs : a.eval s = v) (h : Has W w0 ((RowT e size v n xs).sep U))
    (m c : Nat) (news : List Value) (hx : a.eval x = .slice (some ⟨w0.heap.size, 0, none⟩) m c) (hl : news.length = m * size) (h1 : ∀ u ∈ news, u.oneCell' = true)
    (hm : 0 < m) (h63 : n + m ≤ 1000000) (hb : bytes ≤ 1000)
    (hK : ∀ g cap w', Has W w' ((RowT e size (.slice (some ⟨g, 0, none⟩) (n + m) cap) (n + m) (xs ++ news)).sep U) → wpList Try.prog ops Q rest (a.put o.dst (.slice (some ⟨g, 0, none⟩) (n + m) cap)) w') :
    wpList Try.prog ops Q (o :: rest) a (w0.alloc (.cells news.toArray e)) :=
  wpList_app_from hgd s x t ho e i z size bytes ht hi hz hsize hby hzs hsz hs (h.fr (Fr.alloc w0 (.cells news.toArray e))) ⟨w0.heap.size, 0, none⟩ m c news hx hl
    (by have := World.news_of_block (cs := news.toArray) (t := e) (fr := (0, 0)) (heap_alloc_new w0 _); simpa using this) h1 hm h63 hb hK
theorem Has.step {w w' : World} {T : Thing} (h : Has w w' T) : T.step (fun _ => False) w w' := by
  obtain ⟨hf, O, ht, hO⟩ := h
  exact ⟨O, ht, fun k hk => .inr ⟨hO k hk, T.bound ht k hk⟩, .of_fr hf⟩
theorem Has.add {W w w' : World} {T U : Thing} (h : Has W w U) (k : Has w w' T) : Has W w' (T.sep U) := h.new k.step
theorem Has.drop {W w : World} {T : Thing} (h : Has W w (T.sep .emp)) : Has W w T := h.left
theorem Has.emp {W w : World} {T : Thing} (h : Has W w T) : Has W w (T.sep .emp) := by
  obtain ⟨hf, O, ht, hO⟩ := h
  exact ⟨hf, O, ⟨O, fun _ => False, ht, fun _ h => h, fun _ _ h => h, fun k => by simp⟩, hO⟩
/-- A disk in state s at block B. -/
def DT (B : Nat) (s : RS) : Thing where
  at_ w O := Dk w O B s
  bound h k hk := h.bound k hk
  frame h hs hw := h.frame hs hw
end Go.Proofs.Ytpjoekjakjajcaa
