/-
  A book in memory (BookT), as a Thing: its ring, its own cells, its entries and its map.
-/
import Derived.Test.YthppefkamklakaaDoorMp
import Derived.Test.YthppefkamklakaaDoorCm
namespace Go.Proofs.YthppefkamklakaaDoor
open Go.RowKit Go.MapKept Go.Maps Go.WideMaps

/-! ### Rearranging -/
theorem sep_assoc {A B C : Thing} {w : World} {O : Nat → Prop} (h : ((A.sep B).sep C).at_ w O) : (A.sep (B.sep C)).at_ w O := by
  obtain ⟨O1, O2, ⟨O3, O4, h3, h4, h5, h6⟩, h2, h7, h8⟩ := h
  refine ⟨O3, fun k => O4 k ∨ O2 k, h3, ⟨O4, O2, h4, h2, fun k hk hk' => h7 k ((h6 k).2 (.inr hk)) hk', fun k => Iff.rfl⟩, fun k hk hk' => ?_, fun k => ?_⟩
  · rcases hk' with h | h
    · exact h5 k hk h
    · exact h7 k ((h6 k).2 (.inl hk)) h
  · rw [h8 k, h6 k]
    exact or_assoc
theorem sep_assoc' {A B C : Thing} {w : World} {O : Nat → Prop} (h : (A.sep (B.sep C)).at_ w O) : ((A.sep B).sep C).at_ w O := by
  obtain ⟨O1, O2, h1, ⟨O3, O4, h3, h4, h5, h6⟩, h7, h8⟩ := h
  refine ⟨fun k => O1 k ∨ O3 k, O4, ⟨O1, O3, h1, h3, fun k hk hk' => h7 k hk ((h6 k).2 (.inl hk')), fun k => Iff.rfl⟩, h4, fun k hk hk' => ?_, fun k => ?_⟩
  · rcases hk with h | h
    · exact h7 k h ((h6 k).2 (.inr hk'))
    · exact h5 k h hk'
  · rw [h8 k, h6 k]
    exact or_assoc.symm
theorem Has.assoc {W w : World} {A B C : Thing} (h : Has W w ((A.sep B).sep C)) : Has W w (A.sep (B.sep C)) := h.map fun _ h => sep_assoc h
theorem Has.assoc' {W w : World} {A B C : Thing} (h : Has W w (A.sep (B.sep C))) : Has W w ((A.sep B).sep C) := h.map fun _ h => sep_assoc' h
theorem Has.push3 {W w : World} {A B C E : Thing} (h : Has W w (C.sep (A.sep (B.sep E)))) : Has W w (A.sep (B.sep (C.sep E))) :=
  h.turn.map fun _ h => sep_under h fun _ h => sep_turn h
theorem Has.push4 {W w : World} {A B C D E : Thing} (h : Has W w (D.sep (A.sep (B.sep (C.sep E))))) : Has W w (A.sep (B.sep (C.sep (D.sep E)))) :=
  h.turn.map fun _ h => sep_under h fun _ h => sep_under (sep_turn h) fun _ h => sep_turn h

/-! ### A map -/
def MapT (M : Nat) (m : Txt → Option Value) (n : Nat) : Thing where
  at_ w O := Ms.MapIs w M m n ∧ ∀ k, O k ↔ k = M
  bound h k hk := by rw [(h.2 k).1 hk]; exact h.1.lt
  frame h _ hw := ⟨h.1.heap (hw _ ((h.2 _).2 rfl)), h.2⟩
theorem Has.mapIs {W w : World} {M : Nat} {m n} {U : Thing} (h : Has W w ((MapT M m n).sep U)) : Ms.MapIs w M m n := by
  obtain ⟨O, hT, _, _⟩ := h.open
  exact hT.1
theorem Has.mput {W w : World} {M : Nat} {m m' : Txt → Option Value} {n n' : Nat} {U : Thing} (h : Has W w ((MapT M m n).sep U)) (s : Txt) (hs : s.length ≤ maxLen) (v : Value)
    (hm' : ∀ t, m' t = if t = s then some v else m t) (hn' : n' = if m s = none then n + 1 else n) :
    ∃ w', (Instr.mapUpdate 59 (.map (some M)) (.string (S s)) v).run Tryd.prog w = .ok () w' ∧ Has W w' ((MapT M m' n').sep U) := by
  obtain ⟨O, hT, _, hb⟩ := h.open
  obtain ⟨w', h1, h2, h3⟩ := hT.1.store s hs v hm' hn'
  exact ⟨w', h1, hb w' _ ⟨O, ⟨h2, hT.2⟩, fun k hk => .inl hk, (Own.refl O w).only h3 (.inl ((hT.2 M).2 rfl))⟩⟩
theorem Has.mnew {W w : World} {U : Thing} (h : Has W w U) : Has W (w.alloc (.map #[] 0)) ((MapT w.heap.size (fun _ => none) 0).sep U) :=
  h.new ⟨fun k => k = w.heap.size, ⟨Ms.MapIs.new w, fun _ => Iff.rfl⟩, fun k hk => .inr (by simp [hk]), .of_fr (Fr.alloc w _)⟩
theorem Has.madd {W w w' : World} {M : Nat} {m n} {U : Thing} (h : Has W w U) (hm : Ms.MapIs w' M m n) (hM : w.heap.size ≤ M) (hf : Fr w w') : Has W w' ((MapT M m n).sep U) :=
  h.new ⟨fun k => k = M, ⟨hm, fun _ => Iff.rfl⟩, fun k hk => .inr (by subst hk; exact ⟨hM, hm.lt⟩), .of_fr hf⟩
theorem Has.radd {W w w' : World} {e size n : Nat} {v : Value} {xs : List Value} {U : Thing} (h : Has W w U) (ho : w'.ownsRow w.heap.size e size v n xs) (hf : Fr w w') : Has W w' ((RowT e size v n xs).sep U) :=
  h.new (RowT.made ho hf)

/-! ### The state of a book -/
/-- A key, the entries, and how many were told last, and when. -/
structure BS where
  k : Int
  es : List Txt
  n : Int
  t : Int
noncomputable def keyT (e : Txt) : Txt := (key e).getD []
noncomputable def ks (es : List Txt) : List Txt := es.map keyT
def strs (l : List Txt) : List Value := l.map fun z => Value.string (S z)
theorem strs_len (l : List Txt) : (strs l).length = l.length := by simp [strs]
theorem strs_app (l : List Txt) (s : Txt) : strs (l ++ [s]) = strs l ++ [.string (S s)] := by simp [strs]
theorem strs_get (l : List Txt) (i : Nat) (h : i < l.length) : (strs l)[i]? = some (.string (S l[i])) := by simp [strs, h]
theorem ks_app (l : List Txt) (s : Txt) : ks (l ++ [s]) = ks l ++ [keyT s] := by simp [ks]
theorem ks_len (l : List Txt) : (ks l).length = l.length := by simp [ks]
noncomputable def pmK (l : List Txt) (s : Txt) : Option Value := (pm 0 l s).map (fun (k : Nat) => Value.int .i64 (k : Int))

def BookT (B R : Nat) (s : BS) (q : List Sd) : Thing where
  at_ w O := ∃ M ev m, ((RingT R q).sep ((BoxT 65 B #[.pointer (some ⟨R, 0, none⟩), .int .i64 s.k, ev, .map (some M), .int .i64 s.n, .int .i64 s.t]).sep ((RowT 9 1 ev s.es.length (strs s.es)).sep (MapT M (pmK (ks s.es)) m)))).at_ w O
  bound h k hk := let ⟨_, _, _, h'⟩ := h; Thing.bound _ h' k hk
  frame h hs hw := let ⟨M, ev, m, h'⟩ := h; ⟨M, ev, m, Thing.frame _ h' hs hw⟩
/-- The parts of a book. -/
def BP (W w : World) (B R M : Nat) (ev : Value) (m : Nat) (s : BS) (q : List Sd) (U : Thing) : Prop :=
  Has W w ((RingT R q).sep ((BoxT 65 B #[.pointer (some ⟨R, 0, none⟩), .int .i64 s.k, ev, .map (some M), .int .i64 s.n, .int .i64 s.t]).sep ((RowT 9 1 ev s.es.length (strs s.es)).sep ((MapT M (pmK (ks s.es)) m).sep U))))
theorem Has.bopen {W w : World} {B R : Nat} {s : BS} {q : List Sd} {U : Thing} (h : Has W w ((BookT B R s q).sep U)) : ∃ M ev m, BP W w B R M ev m s q U := by
  obtain ⟨hf, O, ⟨O1, O2, ⟨M, ev, m, h1⟩, h2, h3, h4⟩, hO⟩ := h
  refine ⟨M, ev, m, ?_⟩
  have h5 : Has W w (((RingT R q).sep ((BoxT 65 B #[.pointer (some ⟨R, 0, none⟩), .int .i64 s.k, ev, .map (some M), .int .i64 s.n, .int .i64 s.t]).sep ((RowT 9 1 ev s.es.length (strs s.es)).sep (MapT M (pmK (ks s.es)) m)))).sep U) := ⟨hf, O, ⟨O1, O2, h1, h2, h3, h4⟩, hO⟩
  exact h5.assoc.map fun _ h => sep_under h fun _ h => sep_under (sep_assoc h) fun _ h => sep_assoc h
theorem BP.close {W w : World} {B R M : Nat} {ev : Value} {m : Nat} {s : BS} {q : List Sd} {U : Thing} (h : BP W w B R M ev m s q U) : Has W w ((BookT B R s q).sep U) := by
  have h1 := (Has.map h fun _ h => sep_under h fun _ h => sep_assoc' (sep_under h fun _ h => sep_assoc' h)).assoc'
  obtain ⟨hf, O, ⟨O1, O2, h2, h3, h4, h5⟩, hO⟩ := h1
  exact ⟨hf, O, ⟨O1, O2, ⟨M, ev, m, h2⟩, h3, h4, h5⟩, hO⟩
theorem BP.heap {W w : World} {B R M : Nat} {ev : Value} {m : Nat} {s : BS} {q : List Sd} {U : Thing} (h : BP W w B R M ev m s q U) : w.heap[B]? = some (.cells #[.pointer (some ⟨R, 0, none⟩), .int .i64 s.k, ev, .map (some M), .int .i64 s.n, .int .i64 s.t] 65 (0, 0)) := (Has.right h).boxed
theorem BP.row {W w : World} {B R M : Nat} {ev : Value} {m : Nat} {s : BS} {q : List Sd} {U : Thing} (h : BP W w B R M ev m s q U) : w.ownsRow 0 9 1 ev s.es.length (strs s.es) := (Has.right (Has.right h)).row
theorem BP.map {W w : World} {B R M : Nat} {ev : Value} {m : Nat} {s : BS} {q : List Sd} {U : Thing} (h : BP W w B R M ev m s q U) : Ms.MapIs w M (pmK (ks s.es)) m := (Has.right (Has.right (Has.right h))).mapIs
theorem BP.fr {W w w' : World} {B R M : Nat} {ev : Value} {m : Nat} {s : BS} {q : List Sd} {U : Thing} (h : BP W w B R M ev m s q U) (hf : Fr w w') : BP W w' B R M ev m s q U := Has.fr h hf
end Go.Proofs.YthppefkamklakaaDoor
