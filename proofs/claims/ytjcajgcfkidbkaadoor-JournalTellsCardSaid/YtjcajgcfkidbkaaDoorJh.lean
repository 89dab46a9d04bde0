/-
  What lies in memory (Thing, sep, Has), as for layer 5; a disk, and a disk with a journal, as such things.
-/
import Derived.Test.YtjcajgcfkidbkaaDoorJq
import Derived.Deep.AppendLies
namespace Go.Proofs.YtjcajgcfkidbkaaDoor
open Go.RowKit

theorem Own.fr' {O : Nat → Prop} {a b c : World} (h : Own O a b) (k : Fr b c) : Own O a c := h.trans (O1 := fun _ => False) (fun _ h => h.elim) (.of_fr k)
theorem Own.grown' {O : Nat → Prop} {w w1 w2 : World} {row : Option Nat} (h : Own O w w1) (hg : w1.grownBy w2 row) (hr : ∀ p, row = some p → O p ∨ w.heap.size ≤ p) : Own O w w2 :=
  ⟨hg.os.trans h.os, hg.tape.trans h.tape, hg.output.trans h.output, Nat.le_trans h.size hg.size, fun k hk hn => by
    rw [hg.block k (Nat.lt_of_lt_of_le hk h.size) (fun e => by rcases hr k e.symm with h1 | h1; exact hn h1; omega)]
    exact h.block k hk hn⟩
/-- Something that lies in the blocks of O, and hangs on nothing else. -/
structure Thing where
  at_ : World → (Nat → Prop) → Prop
  bound : ∀ {w O}, at_ w O → ∀ k, O k → k < w.heap.size
  frame : ∀ {w w' O}, at_ w O → w.heap.size ≤ w'.heap.size → (∀ k, O k → w'.heap[k]? = w.heap[k]?) → at_ w' O
theorem Thing.fr (T : Thing) {w w' : World} {O : Nat → Prop} (h : T.at_ w O) (hf : Fr w w') : T.at_ w' O := T.frame h hf.size fun k hk => hf.block (T.bound h k hk)
theorem Thing.kept (T : Thing) {w w' : World} {O O1 : Nat → Prop} (h : T.at_ w O) (ho : Own O1 w w') (hd : ∀ k, O k → ¬ O1 k) : T.at_ w' O := T.frame h ho.size fun k hk => ho.block k (T.bound h k hk) (hd k hk)
/-- A step of what lay in O: it is T now. -/
def Thing.step (T : Thing) (O : Nat → Prop) (w w' : World) : Prop := ∃ O', T.at_ w' O' ∧ (∀ k, O' k → Gr O w w' k) ∧ Own O w w'
theorem Thing.step_fr {T : Thing} {O : Nat → Prop} {w w' : World} (h : T.at_ w O) (hf : Fr w w') : T.step O w w' := ⟨O, T.fr h hf, fun _ h => .inl h, .of_fr hf⟩
theorem Thing.step_trans {T : Thing} {O O1 : Nat → Prop} {a b c : World} (hG : ∀ k, O1 k → Gr O a b k) (hW : Own O a b) (h : T.step O1 b c) : T.step O a c :=
  let ⟨O2, h2, g2, w2⟩ := h
  ⟨O2, h2, fun k hk => Gr.trans hW.size w2.size hG k (g2 k hk), hW.trans hG w2⟩
theorem Thing.step_right {T : Thing} {O : Nat → Prop} {a b c : World} (h : T.step O a b) (hf : Fr b c) : T.step O a c :=
  let ⟨_, h1, g1, w1⟩ := h
  Thing.step_trans g1 w1 (Thing.step_fr h1 hf)
theorem Thing.step_left {T : Thing} {O : Nat → Prop} {a b c : World} (hf : Fr a b) (h : T.step O b c) : T.step O a c := Thing.step_trans (fun _ h => .inl h) (.of_fr hf) h

/-- Both, beside each other. -/
def Thing.sep (T U : Thing) : Thing where
  at_ w O := ∃ O1 O2, T.at_ w O1 ∧ U.at_ w O2 ∧ (∀ k, O1 k → ¬ O2 k) ∧ ∀ k, O k ↔ O1 k ∨ O2 k
  bound h k hk := by
    obtain ⟨O1, O2, h1, h2, _, h4⟩ := h
    rcases (h4 k).1 hk with h | h
    · exact T.bound h1 k h
    · exact U.bound h2 k h
  frame h hs hw := by
    obtain ⟨O1, O2, h1, h2, h3, h4⟩ := h
    exact ⟨O1, O2, T.frame h1 hs fun k hk => hw k ((h4 k).2 (.inl hk)), U.frame h2 hs fun k hk => hw k ((h4 k).2 (.inr hk)), h3, h4⟩
/-- Nothing. -/
def Thing.emp : Thing where
  at_ _ O := ∀ k, ¬ O k
  bound h k hk := absurd hk (h k)
  frame h _ _ := h
/-- T lies in memory that has come since W; all else is as it was then. -/
def Has (W w : World) (T : Thing) : Prop := Fr W w ∧ ∃ O, T.at_ w O ∧ ∀ k, O k → W.heap.size ≤ k
theorem Has.here (w : World) : Has w w .emp := ⟨Fr.refl w, fun _ => False, fun _ h => h, fun _ h => h.elim⟩
theorem Has.toFr {W w : World} {T : Thing} (h : Has W w T) : Fr W w := h.1
theorem Has.fr {W w w' : World} {T : Thing} (h : Has W w T) (hf : Fr w w') : Has W w' T := let ⟨h1, O, h2, h3⟩ := h; ⟨h1.trans hf, O, T.fr h2 hf, h3⟩
theorem Fr.of_own {W w w' : World} (h : Fr W w) {O : Nat → Prop} (hO : ∀ k, O k → W.heap.size ≤ k) (ho : Own O w w') : Fr W w' :=
  Fr.of_below ⟨ho.os.trans h.below.os, ho.tape.trans h.below.tape, ho.output.trans h.below.output, Nat.le_trans h.size ho.size, fun k hk => (ho.block k (Nat.lt_of_lt_of_le hk h.size) (fun hk' => absurd (hO k hk') (by omega))).trans (h.block hk)⟩
/-- Open one of two for a step. -/
theorem Has.open {W w : World} {T U : Thing} (h : Has W w (T.sep U)) : ∃ O, T.at_ w O ∧ (∀ k, O k → W.heap.size ≤ k) ∧ ∀ w' (T' : Thing), T'.step O w w' → Has W w' (T'.sep U) := by
  obtain ⟨hf, O, ⟨O1, O2, h1, h2, h3, h4⟩, hO⟩ := h
  refine ⟨O1, h1, fun k hk => hO k ((h4 k).2 (.inl hk)), fun w' T' hs => ?_⟩
  obtain ⟨O', ht, hg, hw⟩ := hs
  refine ⟨hf.of_own (fun k hk => hO k ((h4 k).2 (.inl hk))) hw, fun k => O' k ∨ O2 k, ⟨O', O2, ht, U.kept h2 hw (fun k hk hk' => h3 k hk' hk), fun k hk hk' => ?_, fun k => Iff.rfl⟩, fun k hk => ?_⟩
  · rcases hg k hk with h | ⟨h, _⟩
    · exact h3 k h hk'
    · exact absurd (U.bound h2 k hk') (by omega)
  · rcases hk with hk | hk
    · rcases hg k hk with h | ⟨h, _⟩
      · exact hO k ((h4 k).2 (.inl h))
      · exact Nat.le_trans hf.size h
    · exact hO k ((h4 k).2 (.inr hk))
theorem Has.comm {W w : World} {T U : Thing} (h : Has W w (T.sep U)) : Has W w (U.sep T) := by
  obtain ⟨hf, O, ⟨O1, O2, h1, h2, h3, h4⟩, hO⟩ := h
  exact ⟨hf, O, ⟨O2, O1, h2, h1, fun k hk hk' => h3 k hk' hk, fun k => (h4 k).trans Or.comm⟩, hO⟩
theorem Has.left {W w : World} {T U : Thing} (h : Has W w (T.sep U)) : Has W w T := by
  obtain ⟨hf, O, ⟨O1, O2, h1, h2, h3, h4⟩, hO⟩ := h
  exact ⟨hf, O1, h1, fun k hk => hO k ((h4 k).2 (.inl hk))⟩
theorem Has.right {W w : World} {T U : Thing} (h : Has W w (T.sep U)) : Has W w U := h.comm.left
/-- T, (U, V) becomes U, (T, V). -/
theorem Has.turn {W w : World} {T U V : Thing} (h : Has W w (T.sep (U.sep V))) : Has W w (U.sep (T.sep V)) := by
  obtain ⟨hf, O, ⟨O1, O2, h1, ⟨O3, O4, h5, h6, h7, h8⟩, h3, h4⟩, hO⟩ := h
  refine ⟨hf, O, ⟨O3, fun k => O1 k ∨ O4 k, h5, ⟨O1, O4, h1, h6, fun k hk hk' => h3 k hk ((h8 k).2 (.inr hk')), fun k => Iff.rfl⟩, fun k hk hk' => ?_, fun k => ?_⟩, hO⟩
  · rcases hk' with hk' | hk'
    · exact h3 k hk' ((h8 k).2 (.inl hk))
    · exact h7 k hk hk'
  · rw [h4 k, h8 k]
    constructor
    · rintro (h | h | h)
      · exact .inr (.inl h)
      · exact .inl h
      · exact .inr (.inr h)
    · rintro (h | h | h)
      · exact .inr (.inl h)
      · exact .inl h
      · exact .inr (.inr h)
/-- Something new beside it. -/
theorem Has.new {W w w' : World} {T U : Thing} (h : Has W w U) (hs : T.step (fun _ => False) w w') : Has W w' (T.sep U) := by
  obtain ⟨hf, O, hu, hO⟩ := h
  obtain ⟨O', ht, hg, hw⟩ := hs
  have hn : ∀ k, O' k → w.heap.size ≤ k := fun k hk => by
    rcases hg k hk with h3 | h3
    · exact h3.elim
    · exact h3.1
  refine ⟨hf.of_own (fun _ h => h.elim) hw, fun k => O' k ∨ O k, ⟨O', O, ht, U.kept hu hw (fun _ _ h => h), fun k hk hk' => absurd (U.bound hu k hk') (by have := hn k hk; omega), fun _ => Iff.rfl⟩, fun k hk => ?_⟩
  rcases hk with hk | hk
  · exact Nat.le_trans hf.size (hn k hk)
  · exact hO k hk
/-- A row that belongs to the proof. -/
def RowT (e size : Nat) (v : Value) (n : Nat) (xs : List Value) : Thing where
  at_ w O := w.ownsRow 0 e size v n xs ∧ ∀ k, O k ↔ v.ownBlock = some k
  bound h k hk := (h.1.lt k ((h.2 k).1 hk)).2
  frame h _ hw := ⟨ownsRow_heap h.1 fun p hp => hw p ((h.2 p).2 hp), h.2⟩
theorem RowT.nil (w : World) (e size : Nat) : (RowT e size (.slice none 0 0) 0 []).at_ w (fun _ => False) := ⟨⟨by simp, .inl ⟨rfl, rfl⟩⟩, fun k => by simp [Value.ownBlock]⟩
/-- A row that has just been made. -/
theorem RowT.made {w w' : World} {e size n : Nat} {v : Value} {xs : List Value} (h : w'.ownsRow w.heap.size e size v n xs) (hf : Fr w w') : (RowT e size v n xs).step (fun _ => False) w w' :=
  ⟨fun k => v.ownBlock = some k, ⟨row_mono h (Nat.zero_le _), fun _ => Iff.rfl⟩, fun k hk => .inr (h.lt k hk), .of_fr hf⟩
/-- What append makes of it. -/
theorem RowT.app {w w' : World} {O : Nat → Prop} {e size n m : Nat} {v v' : Value} {xs ys : List Value} (h : (RowT e size v n xs).at_ w O) (ho : w'.ownsRow 0 e size v' m ys) (hg : w.grownBy w' v.ownBlock)
    (hb : ∀ p, v'.ownBlock = some p → v.ownBlock = some p ∨ w.heap.size ≤ p) : (RowT e size v' m ys).step O w w' :=
  ⟨fun k => v'.ownBlock = some k, ⟨ho, fun _ => Iff.rfl⟩, fun k hk => by
    rcases hb k hk with h1 | h1
    · exact .inl ((h.2 k).2 h1)
    · exact .inr ⟨h1, (ho.lt k hk).2⟩, (Own.refl O w).grown' hg fun p hp => .inl ((h.2 p).2 hp)⟩
/-- A block of cells that belongs to the proof. -/
def BoxT (t : TypeId) (B : Nat) (C : Array Value) : Thing where
  at_ w O := w.heap[B]? = some (.cells C t (0, 0)) ∧ ∀ k, O k ↔ k = B
  bound h k hk := by rw [(h.2 k).1 hk]; exact (Array.getElem?_eq_some_iff.1 h.1).1
  frame h _ hw := ⟨by rw [hw B ((h.2 B).2 rfl)]; exact h.1, h.2⟩
theorem Has.box {W w : World} {U : Thing} (h : Has W w U) (t : TypeId) (C : Array Value) : Has W (w.alloc (.cells C t)) ((BoxT t w.heap.size C).sep U) :=
  h.new ⟨fun k => k = w.heap.size, ⟨heap_alloc_new w _, fun _ => Iff.rfl⟩, fun k hk => .inr (by simp [hk]), .of_fr (Fr.alloc w _)⟩
theorem Has.boxed {W w : World} {t : TypeId} {B : Nat} {C : Array Value} {U : Thing} (h : Has W w ((BoxT t B C).sep U)) : w.heap[B]? = some (.cells C t (0, 0)) := by
  obtain ⟨O, hT, _, _⟩ := h.open
  exact hT.1
theorem Has.row {W w : World} {e size n : Nat} {v : Value} {xs : List Value} {U : Thing} (h : Has W w ((RowT e size v n xs).sep U)) : w.ownsRow 0 e size v n xs := by
  obtain ⟨O, hT, _, _⟩ := h.open
  exact hT.1
theorem Has.set {W w : World} {t : TypeId} {B : Nat} {C : Array Value} {U : Thing} (h : Has W w ((BoxT t B C).sep U)) (i : Nat) (v : Value) : Has W (w.setCell ⟨B, i, none⟩ v) ((BoxT t B (C.setIfInBounds i v)).sep U) := by
  obtain ⟨O, hT, _, hb⟩ := h.open
  refine hb _ _ ⟨O, ⟨heapB hT.1, hT.2⟩, fun _ h => .inl h, ?_⟩
  exact (Own.refl O w).only (OnlyB.setCell w B i v) (.inl ((hT.2 B).2 rfl))
theorem Has.nilRow {W w : World} {U : Thing} (h : Has W w U) (e size : Nat) : Has W w ((RowT e size (.slice none 0 0) 0 []).sep U) :=
  h.new ⟨fun _ => False, RowT.nil w e size, fun _ h => h.elim, .refl _ w⟩
theorem Has.app {W w w' : World} {e size n m : Nat} {v v' : Value} {xs ys : List Value} {U : Thing} (h : Has W w ((RowT e size v n xs).sep U)) (ho : w'.ownsRow 0 e size v' m ys) (hg : w.grownBy w' v.ownBlock)
    (hb : ∀ p, v'.ownBlock = some p → v.ownBlock = some p ∨ w.heap.size ≤ p) : Has W w' ((RowT e size v' m ys).sep U) := by
  obtain ⟨O, hT, _, hk⟩ := h.open
  exact hk _ _ (RowT.app hT ho hg hb)
theorem wpList_app_from {w : World} {ops : Array Oper} {rest : List Oper} {o : Oper} {a : Act} {Q : Exit → Act → World → Prop} (hgd : o.guard = none) (s x : Operand) (t : TypeId)
    (ho : o.op = .call { callee := .builtin .append, args := #[s, x], argTypes := #[t, t] })
    (e : TypeId) (i : TypeInfo) (z : Value) (size bytes : Nat) (ht : Tryd.prog.underlying t = some (.slice e)) (hi : Tryd.prog.info? e = some i) (hz : i.zero = some z)
    (hsize : i.size = size) (hby : i.bytes = bytes) (hzs : z.cells.size = size) (hsz : 0 < size)
    {W : World} {U : Thing} {v : Value} {n : Nat} {xs : List Value} (hs : a.eval s = v) (h : Has W w ((RowT e size v n xs).sep U))
    (ad : Addr) (m c : Nat) (news : List Value) (hx : a.eval x = .slice (some ad) m c) (hl : news.length = m * size) (hnews : ∀ j u, news[j]? = some u → w.cell? (ad.add j) = some u) (h1 : ∀ u ∈ news, u.oneCell' = true)
    (hm : 0 < m) (h63 : n + m ≤ 1000000) (hb : bytes ≤ 1000)
    (hK : ∀ g cap w', Has W w' ((RowT e size (.slice (some ⟨g, 0, none⟩) (n + m) cap) (n + m) (xs ++ news)).sep U) → wpList Tryd.prog ops Q rest (a.put o.dst (.slice (some ⟨g, 0, none⟩) (n + m) cap)) w') :
    wpList Tryd.prog ops Q (o :: rest) a w := by
  have hmul : (n + m) * bytes ≤ 1000000 * 1000 := Nat.mul_le_mul h63 hb
  refine wpList_append_lies _ hgd s x t ho 0 e i z size bytes ht hi hz hsize hby hzs hsz v n xs hs h.row ad m c news hx hl hnews h1 hm (by unfold maxLen; omega) (by omega) (Nat.zero_le _) _ rfl ?_
  intro g cap w' hown hgrow hat _
  refine hK g cap w' (h.app hown hgrow fun p hp => ?_)
  simp only [Value.ownBlock, Option.some.injEq] at hp
  subst hp
  rcases hat with h | h
  · exact .inl h
  · exact .inr (Nat.le_of_eq h.symm)
theorem wpList_app {w0 : World} {ops : Array Oper} {rest : List Oper} {o : Oper} {a : Act} {Q : Exit → Act → World → Prop} (hgd : o.guard = none) (s x : Operand) (t : TypeId)
    (ho : o.op = .call { callee := .builtin .append, args := #[s, x], argTypes := #[t, t] })
    (e : TypeId) (i : TypeInfo) (z : Value) (size bytes : Nat) (ht : Tryd.prog.underlying t = some (.slice e)) (hi : Tryd.prog.info? e = some i) (hz : i.zero = some z)
    (hsize : i.size = size) (hby : i.bytes = bytes) (hzs : z.cells.size = size) (hsz : 0 < size)
    {W : World} {U : Thing} {v : Value} {n : Nat} {xs : List Value} (hs : a.eval s = v) (h : Has W w0 ((RowT e size v n xs).sep U))
    (m c : Nat) (news : List Value) (hx : a.eval x = .slice (some ⟨w0.heap.size, 0, none⟩) m c) (hl : news.length = m * size) (h1 : ∀ u ∈ news, u.oneCell' = true)
    (hm : 0 < m) (h63 : n + m ≤ 1000000) (hb : bytes ≤ 1000)
    (hK : ∀ g cap w', Has W w' ((RowT e size (.slice (some ⟨g, 0, none⟩) (n + m) cap) (n + m) (xs ++ news)).sep U) → wpList Tryd.prog ops Q rest (a.put o.dst (.slice (some ⟨g, 0, none⟩) (n + m) cap)) w') :
    wpList Tryd.prog ops Q (o :: rest) a (w0.alloc (.cells news.toArray e)) :=
  wpList_app_from hgd s x t ho e i z size bytes ht hi hz hsize hby hzs hsz hs (h.fr (Fr.alloc w0 (.cells news.toArray e))) ⟨w0.heap.size, 0, none⟩ m c news hx hl
    (by have := World.news_of_block (cs := news.toArray) (t := e) (fr := (0, 0)) (heap_alloc_new w0 _); simpa using this) h1 hm h63 hb hK

/-! ### Disks and journals -/
theorem QD.frame {w w' : World} {O : Nat → Prop} {B : Nat} {F : Nat → List UInt8} (h : QD w O B F) (hs : w.heap.size ≤ w'.heap.size) (hw : ∀ k, O k → w'.heap[k]? = w.heap[k]?) : QD w' O B F := let ⟨s, h1, h2, h3⟩ := h; ⟨s, h1.frame hs hw, h2, h3⟩
theorem QJ.frame {w w' : World} {O : Nat → Prop} {B J f : Nat} {F : Nat → List UInt8} {rs : List (List UInt8)} (h : QJ w O B J F f rs) (hs : w.heap.size ≤ w'.heap.size) (hw : ∀ k, O k → w'.heap[k]? = w.heap[k]?) : QJ w' O B J F f rs :=
  let ⟨s, ⟨Od, rv, h1⟩, h2, h3⟩ := h
  ⟨s, ⟨Od, rv, h1.dk.frame hs (fun k hk => hw k (h1.sub k hk)), h1.jn.keep (hw J h1.oJ) (fun p hp => hw p (h1.oR p hp)), h1.sub, h1.oJ, h1.oR, h1.nJ, h1.nR, fun k hk => Nat.lt_of_lt_of_le (h1.bound k hk) hs⟩, h2, h3⟩
def DT (B : Nat) (F : Nat → List UInt8) : Thing where
  at_ w O := QD w O B F
  bound h k hk := let ⟨_, h1, _⟩ := h; h1.bound k hk
  frame h hs hw := h.frame hs hw
def JT (B J : Nat) (F : Nat → List UInt8) (f : Nat) (rs : List (List UInt8)) : Thing where
  at_ w O := QJ w O B J F f rs
  bound h k hk := let ⟨_, ⟨_, _, h1⟩, _⟩ := h; h1.bound k hk
  frame h hs hw := h.frame hs hw
set_option maxRecDepth 100000 in
theorem Step.thing {T : Thing} {O O' : Nat → Prop} {w w' : World} (h : T.at_ w' O') (k : Step O w w' O') : T.step O w w' := ⟨O', h, k.sub, k.own⟩
theorem Has.disk {W w : World} {U : Thing} (h : Has W w U) : Calls Tryd.prog 10 #[] w fun r w' => ∃ B, r = .returned (.pointer (some ⟨B, 0, none⟩)) ∧ Has W w' ((DT B (fun _ => [])).sep U) := by
  refine (q_new w).mono ?_
  rintro r w' ⟨B, O, rfl, hd, hs⟩
  exact ⟨B, rfl, h.new (Step.thing (T := DT B _) hd hs)⟩
set_option maxRecDepth 100000 in
theorem Has.size {W w : World} {U : Thing} {B f : Nat} {F : Nat → List UInt8} (h : Has W w ((DT B F).sep U)) (hf : f < 16) :
    Calls Tryd.prog 31 #[.pointer (some ⟨B, 0, none⟩), .int .i64 f] w fun e w' => e = .returned (.int .i64 ((F f).length : Nat)) ∧ w' = w := by
  obtain ⟨O, hT, _, _⟩ := h.open
  exact q_size hT hf
set_option maxRecDepth 100000 in
theorem Has.jsize {W w : World} {U : Thing} {B J f g : Nat} {F : Nat → List UInt8} {rs : List (List UInt8)} (h : Has W w ((JT B J F f rs).sep U)) (hg : g < 16) :
    Calls Tryd.prog 31 #[.pointer (some ⟨B, 0, none⟩), .int .i64 g] w fun e w' => e = .returned (.int .i64 ((F g).length : Nat)) ∧ w' = w := by
  obtain ⟨O, hT, _, _⟩ := h.open
  obtain ⟨Od, _, hd, _⟩ := QJ.disk hT
  exact q_size hd hg
set_option maxRecDepth 100000 in
theorem Has.jread {W w : World} {U : Thing} {B J f g n : Nat} {F : Nat → List UInt8} {rs : List (List UInt8)} (h : Has W w ((JT B J F f rs).sep U)) (hg : g < 16) (hn : n ≤ 9223372036854775807) :
    Calls Tryd.prog 30 #[.pointer (some ⟨B, 0, none⟩), .int .i64 g, .int .i64 0, .int .i64 n] w fun e w' => e = .returned (.tuple #[.string (S ((F g).take n)), .int .i64 0]) ∧ Fr w w' := by
  obtain ⟨O, hT, _, _⟩ := h.open
  obtain ⟨Od, _, hd, _⟩ := QJ.disk hT
  exact q_read hd hg hn
/-- The journal is forgotten. -/
theorem Has.leave {W w : World} {U : Thing} {B J f : Nat} {F : Nat → List UInt8} {rs : List (List UInt8)} (h : Has W w ((JT B J F f rs).sep U)) : Has W w ((DT B F).sep U) := by
  obtain ⟨hf, O, ⟨O1, O2, h1, h2, h3, h4⟩, hO⟩ := h
  obtain ⟨Od, _, hd, hsub, _⟩ := QJ.disk h1
  exact ⟨hf, fun k => Od k ∨ O2 k, ⟨Od, O2, hd, h2, fun k hk => h3 k (hsub k hk), fun _ => Iff.rfl⟩, fun k hk => hO k ((h4 k).2 (hk.imp (hsub k) id))⟩
set_option maxRecDepth 100000 in
theorem Has.open' {W w : World} {U : Thing} {B f : Nat} {F : Nat → List UInt8} (h : Has W w ((DT B F).sep U)) (hf : f < 16) :
    Calls Tryd.prog 12 #[.pointer (some ⟨B, 0, none⟩), .int .i64 f] w fun e w' => ∃ J rs rest, Jm.Recs (F f) rs rest ∧ e = .returned (.tuple #[.pointer (some ⟨J, 0, none⟩), .int .i64 0]) ∧ Has W w' ((JT B J (put F f (Jm.forms rs)) f rs).sep U) := by
  obtain ⟨O, hT, _, hb⟩ := h.open
  refine (q_open hT hf).mono ?_
  rintro e w' ⟨J, O', rs, rest, h1, rfl, h2, h3⟩
  exact ⟨J, rs, rest, h1, rfl, hb w' _ (Step.thing (T := JT B J _ f rs) h2 h3)⟩
set_option maxRecDepth 100000 in
theorem Has.write {W w : World} {U : Thing} {B f : Nat} {F : Nat → List UInt8} (h : Has W w ((DT B F).sep U)) (hf : f < 16) (hF : F f = []) (l : List UInt8) (hm : l.length ≤ 16777216) :
    Calls Tryd.prog 37 #[.pointer (some ⟨B, 0, none⟩), .int .i64 f, .int .i64 0, .string (S l)] w fun e w' => e = .returned (.int .i64 0) ∧ Has W w' ((DT B (put F f l)).sep U) := by
  obtain ⟨O, hT, _, hb⟩ := h.open
  have := q_put hT hf l (by rw [hF]; simpa using hm)
  rw [hF, List.nil_append] at this
  refine this.mono ?_
  rintro e w' ⟨O', rfl, h2, h3⟩
  exact ⟨rfl, hb w' _ (Step.thing (T := DT B _) h2 h3)⟩
set_option maxRecDepth 100000 in
theorem Has.append {W w : World} {U : Thing} {B J f : Nat} {F : Nat → List UInt8} {rs : List (List UInt8)} (h : Has W w ((JT B J F f rs).sep U)) (hf : f < 16) (hF : F f = Jm.forms rs) (r : List UInt8) (hr : r.length ≤ 20000) (hm : (Jm.forms rs).length + (Jm.formE.f r).length ≤ 1048576) (ht : Tab W) :
    Calls Tryd.prog 16 #[.pointer (some ⟨J, 0, none⟩), .string (S r)] w fun e w' => e = .returned (.int .i64 0) ∧ Has W w' ((JT B J (put F f (Jm.forms (rs ++ [r]))) f (rs ++ [r])).sep U) := by
  obtain ⟨O, hT, _, hb⟩ := h.open
  refine (q_append hT hf hF r hr hm (ht.fr h.toFr)).mono ?_
  rintro e w' ⟨O', rfl, h2, h3⟩
  exact ⟨rfl, hb w' _ (Step.thing (T := JT B J _ f _) h2 h3)⟩
set_option maxRecDepth 100000 in
theorem Has.long {W w : World} {U : Thing} {B J f : Nat} {F : Nat → List UInt8} {rs : List (List UInt8)} (h : Has W w ((JT B J F f rs).sep U)) (r : List UInt8) (hr : 20000 < r.length) :
    Calls Tryd.prog 16 #[.pointer (some ⟨J, 0, none⟩), .string (S r)] w fun e w' => e = .returned (.int .i64 3) ∧ w' = w := by
  obtain ⟨O, hT, _, _⟩ := h.open
  obtain ⟨rv, hj⟩ := QJ.jn hT
  exact append_long hj (S r) hr
set_option maxRecDepth 100000 in
theorem Has.jlen {W w : World} {U : Thing} {B J f : Nat} {F : Nat → List UInt8} {rs : List (List UInt8)} (h : Has W w ((JT B J F f rs).sep U)) :
    Calls Tryd.prog 44 #[.pointer (some ⟨J, 0, none⟩)] w fun e w' => e = .returned (.int .i64 rs.length) ∧ w' = w := by
  obtain ⟨O, hT, _, _⟩ := h.open
  obtain ⟨rv, hj⟩ := QJ.jn hT
  exact len_any hj
set_option maxRecDepth 100000 in
theorem Has.jget {W w : World} {U : Thing} {B J f : Nat} {F : Nat → List UInt8} {rs : List (List UInt8)} (h : Has W w ((JT B J F f rs).sep U)) (i : Int) :
    Calls Tryd.prog 45 #[.pointer (some ⟨J, 0, none⟩), .int .i64 i] w fun e w' => e = .returned (.string (S (if i < 0 then [] else rs.getD i.toNat []))) ∧ w' = w := by
  obtain ⟨O, hT, _, _⟩ := h.open
  obtain ⟨rv, hj⟩ := QJ.jn hT
  exact get_any hj i
set_option maxRecDepth 100000 in
theorem Has.jall {W w : World} {U : Thing} {B J f : Nat} {F : Nat → List UInt8} {rs : List (List UInt8)} (h : Has W w ((JT B J F f rs).sep U)) (hl : rs.length * 16 ≤ 140737488355328) :
    Calls Tryd.prog 29 #[.pointer (some ⟨J, 0, none⟩)] w fun e w' => ∃ v, e = .returned v ∧ w'.ownsRow w.heap.size 9 1 v rs.length (strs rs) ∧ Fr w w' := by
  obtain ⟨O, hT, _, _⟩ := h.open
  obtain ⟨rv, hj⟩ := QJ.jn hT
  exact all_any hj hl
end Go.Proofs.YtjcajgcfkidbkaaDoor
