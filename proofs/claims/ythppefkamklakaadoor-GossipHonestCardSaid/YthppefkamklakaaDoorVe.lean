/-
  A view in memory (ViewT); New, Key, Text, Size, Age, Absent, Known, place.
-/
import Derived.Test.YthppefkamklakaaDoorVd
import Derived.Test.YthppefkamklakaaDoorBc
namespace Go.Proofs.YthppefkamklakaaDoor
open Go.RowKit Go.MapKept Go.Maps Go.WideMaps

/-! ### Rearranging -/
section
variable {w : World} {O : Nat → Prop} {A B C D F G H E : Thing}
theorem sp3 (h : (A.sep (B.sep (C.sep E))).at_ w O) : (C.sep (A.sep (B.sep E))).at_ w O := sep_turn (sep_under h fun _ h => sep_turn h)
theorem sp4 (h : (A.sep (B.sep (C.sep (D.sep E)))).at_ w O) : (D.sep (A.sep (B.sep (C.sep E)))).at_ w O := sep_turn (sep_under h fun _ h => sp3 h)
theorem sp5 (h : (A.sep (B.sep (C.sep (D.sep (F.sep E))))).at_ w O) : (F.sep (A.sep (B.sep (C.sep (D.sep E))))).at_ w O := sep_turn (sep_under h fun _ h => sp4 h)
theorem sp6 (h : (A.sep (B.sep (C.sep (D.sep (F.sep (G.sep E)))))).at_ w O) : (G.sep (A.sep (B.sep (C.sep (D.sep (F.sep E)))))).at_ w O := sep_turn (sep_under h fun _ h => sp5 h)
theorem sp7 (h : (A.sep (B.sep (C.sep (D.sep (F.sep (G.sep (H.sep E))))))).at_ w O) : (H.sep (A.sep (B.sep (C.sep (D.sep (F.sep (G.sep E))))))).at_ w O := sep_turn (sep_under h fun _ h => sp6 h)
theorem ps3 (h : (C.sep (A.sep (B.sep E))).at_ w O) : (A.sep (B.sep (C.sep E))).at_ w O := sep_under (sep_turn h) fun _ h => sep_turn h
theorem ps4 (h : (D.sep (A.sep (B.sep (C.sep E)))).at_ w O) : (A.sep (B.sep (C.sep (D.sep E)))).at_ w O := sep_under (sep_turn h) fun _ h => ps3 h
theorem ps5 (h : (F.sep (A.sep (B.sep (C.sep (D.sep E))))).at_ w O) : (A.sep (B.sep (C.sep (D.sep (F.sep E))))).at_ w O := sep_under (sep_turn h) fun _ h => ps4 h
theorem ps6 (h : (G.sep (A.sep (B.sep (C.sep (D.sep (F.sep E)))))).at_ w O) : (A.sep (B.sep (C.sep (D.sep (F.sep (G.sep E)))))).at_ w O := sep_under (sep_turn h) fun _ h => ps5 h
theorem ps7 (h : (H.sep (A.sep (B.sep (C.sep (D.sep (F.sep (G.sep E))))))).at_ w O) : (A.sep (B.sep (C.sep (D.sep (F.sep (G.sep (H.sep E))))))).at_ w O := sep_under (sep_turn h) fun _ h => ps6 h
end

/-! ### Maps from ints -/
def MbT (M : Nat) (m : Int → Option Value) (n : Nat) : Thing where
  at_ w O := Mb.MapIs w M m n ∧ ∀ k, O k ↔ k = M
  bound h k hk := by rw [(h.2 k).1 hk]; exact h.1.lt
  frame h _ hw := ⟨h.1.heap (hw _ ((h.2 _).2 rfl)), h.2⟩
def MeT (M : Nat) (m : Int → Option Value) (n : Nat) : Thing where
  at_ w O := Me.MapIs w M m n ∧ ∀ k, O k ↔ k = M
  bound h k hk := by rw [(h.2 k).1 hk]; exact h.1.lt
  frame h _ hw := ⟨h.1.heap (hw _ ((h.2 _).2 rfl)), h.2⟩
theorem Has.mbIs {W w : World} {M : Nat} {m n} {U : Thing} (h : Has W w ((MbT M m n).sep U)) : Mb.MapIs w M m n := let ⟨_, hT, _, _⟩ := h.open; hT.1
theorem Has.meIs {W w : World} {M : Nat} {m n} {U : Thing} (h : Has W w ((MeT M m n).sep U)) : Me.MapIs w M m n := let ⟨_, hT, _, _⟩ := h.open; hT.1
theorem Has.mbput {W w : World} {M : Nat} {m m' : Int → Option Value} {n n' : Nat} {U : Thing} (h : Has W w ((MbT M m n).sep U)) (s : Int) (hs : Wm.inInt s) (v : Value)
    (hm' : ∀ t, m' t = if t = s then some v else m t) (hn' : n' = if m s = none then n + 1 else n) :
    ∃ w', (Instr.mapUpdate 83 (.map (some M)) (.int .i64 s) v).run Tryd.prog w = .ok () w' ∧ Has W w' ((MbT M m' n').sep U) := by
  obtain ⟨O, hT, _, hb⟩ := h.open
  obtain ⟨w', h1, h2, h3⟩ := hT.1.store s hs v hm' hn'
  exact ⟨w', h1, hb w' _ ⟨O, ⟨h2, hT.2⟩, fun k hk => .inl hk, (Own.refl O w).only h3 (.inl ((hT.2 M).2 rfl))⟩⟩
theorem Has.meput {W w : World} {M : Nat} {m m' : Int → Option Value} {n n' : Nat} {U : Thing} (h : Has W w ((MeT M m n).sep U)) (s : Int) (hs : Wm.inInt s) (v : Value)
    (hm' : ∀ t, m' t = if t = s then some v else m t) (hn' : n' = if m s = none then n + 1 else n) :
    ∃ w', (Instr.mapUpdate 84 (.map (some M)) (.int .i64 s) v).run Tryd.prog w = .ok () w' ∧ Has W w' ((MeT M m' n').sep U) := by
  obtain ⟨O, hT, _, hb⟩ := h.open
  obtain ⟨w', h1, h2, h3⟩ := hT.1.store s hs v hm' hn'
  exact ⟨w', h1, hb w' _ ⟨O, ⟨h2, hT.2⟩, fun k hk => .inl hk, (Own.refl O w).only h3 (.inl ((hT.2 M).2 rfl))⟩⟩
theorem Has.mbnew {W w : World} {U : Thing} (h : Has W w U) : Has W (w.alloc (.map #[] 0)) ((MbT w.heap.size (fun _ => none) 0).sep U) :=
  h.new ⟨fun k => k = w.heap.size, ⟨Mb.MapIs.new w, fun _ => Iff.rfl⟩, fun k hk => .inr (by simp [hk]), .of_fr (Fr.alloc w _)⟩
theorem Has.menew {W w : World} {U : Thing} (h : Has W w U) : Has W (w.alloc (.map #[] 0)) ((MeT w.heap.size (fun _ => none) 0).sep U) :=
  h.new ⟨fun k => k = w.heap.size, ⟨Me.MapIs.new w, fun _ => Iff.rfl⟩, fun k hk => .inr (by simp [hk]), .of_fr (Fr.alloc w _)⟩

/-! ### A view -/
def mmV (d : VD) (m : Int) : Option Value := if d.mm m then some (.bool true) else none
def enV (d : VD) (i : Int) : Option Value := (d.en i).map fun (t : Txt) => Value.string (S t)
def fiV (d : VD) (t : Txt) : Option Value := (d.fi t).map fun (n : Int) => Value.int .i64 n
def abV (d : VD) (t : Txt) : Option Value := (d.ab t).map fun (n : Int) => Value.int .i64 n
/-- Where the parts of a view lie. -/
structure VQ where
  av : Value
  mM : Nat
  mE : Nat
  mF : Nat
  mA : Nat
  hv : Value
  n1 : Nat
  n2 : Nat
  n3 : Nat
  n4 : Nat
def VQ.cells (p : VQ) (R : Nat) (k : Int) : Array Value := #[.pointer (some ⟨R, 0, none⟩), .int .i64 k, p.av, .map (some p.mM), .map (some p.mE), .map (some p.mF), .map (some p.mA), p.hv]
def VQ.thing (p : VQ) (B R : Nat) (k : Int) (l : List Sg) (d : VD) (U : Thing) : Thing :=
  (BoxT 87 B (p.cells R k)).sep ((RowT 37 3 p.av l.length (sgC l)).sep ((MbT p.mM (mmV d) p.n1).sep ((MeT p.mE (enV d) p.n2).sep ((MapT p.mF (fiV d) p.n3).sep ((MapT p.mA (abV d) p.n4).sep ((RowT 68 4 p.hv d.hd.length (cC d.hd)).sep U))))))
def ViewT (B R : Nat) (k : Int) (l : List Sg) (d : VD) : Thing where
  at_ w O := ∃ p : VQ, (p.thing B R k l d .emp).at_ w O
  bound h k hk := let ⟨_, h'⟩ := h; Thing.bound _ h' k hk
  frame h hs hw := let ⟨p, h'⟩ := h; ⟨p, Thing.frame _ h' hs hw⟩
/-- A view whose parts lie at p. -/
def VP (W w : World) (p : VQ) (B R : Nat) (k : Int) (l : List Sg) (d : VD) (U : Thing) : Prop := Has W w (p.thing B R k l d U)
theorem sep_emp {A U : Thing} {w : World} {O : Nat → Prop} (h : ((A.sep .emp).sep U).at_ w O) : (A.sep U).at_ w O := by
  obtain ⟨O1, O2, ⟨O3, O4, h3, h4, h5, h6⟩, h2, h7, h8⟩ := h
  have e : ∀ k, O1 k ↔ O3 k := fun k => ⟨fun h => (h6 k).1 h |>.elim id (fun h => absurd h (h4 k)), fun h => (h6 k).2 (.inl h)⟩
  exact ⟨O3, O2, h3, h2, fun k hk => h7 k ((e k).2 hk), fun k => by rw [h8 k, e k]⟩
theorem emp_sep {A U : Thing} {w : World} {O : Nat → Prop} (h : (A.sep U).at_ w O) : ((A.sep .emp).sep U).at_ w O := by
  obtain ⟨O1, O2, h1, h2, h7, h8⟩ := h
  exact ⟨O1, O2, ⟨O1, fun _ => False, h1, fun _ h => h, fun _ _ h => h, fun k => by simp⟩, h2, h7, h8⟩
theorem Has.vopen {W w : World} {B R : Nat} {k : Int} {l : List Sg} {d : VD} {U : Thing} (h : Has W w ((ViewT B R k l d).sep U)) : ∃ p, VP W w p B R k l d U := by
  obtain ⟨hf, O, ⟨O1, O2, ⟨p, h1⟩, h2, h3, h4⟩, hO⟩ := h
  refine ⟨p, ?_⟩
  have h5 : Has W w ((p.thing B R k l d .emp).sep U) := ⟨hf, O, ⟨O1, O2, h1, h2, h3, h4⟩, hO⟩
  refine h5.map fun _ h => ?_
  exact sep_under (sep_assoc h) fun _ h => sep_under (sep_assoc h) fun _ h => sep_under (sep_assoc h) fun _ h => sep_under (sep_assoc h) fun _ h => sep_under (sep_assoc h) fun _ h => sep_under (sep_assoc h) fun _ h => sep_emp h
theorem VP.close {W w : World} {p : VQ} {B R : Nat} {k : Int} {l : List Sg} {d : VD} {U : Thing} (h : VP W w p B R k l d U) : Has W w ((ViewT B R k l d).sep U) := by
  have h1 : Has W w ((p.thing B R k l d .emp).sep U) := Has.map h fun _ h =>
    sep_assoc' (sep_under h fun _ h => sep_assoc' (sep_under h fun _ h => sep_assoc' (sep_under h fun _ h => sep_assoc' (sep_under h fun _ h => sep_assoc' (sep_under h fun _ h => sep_assoc' (sep_under h fun _ h => emp_sep h))))))
  obtain ⟨hf, O, ⟨O1, O2, h2, h3, h4, h5⟩, hO⟩ := h1
  exact ⟨hf, O, ⟨O1, O2, ⟨p, h2⟩, h3, h4, h5⟩, hO⟩
section
variable {W w : World} {p : VQ} {B R : Nat} {k : Int} {l : List Sg} {d : VD} {U : Thing}
theorem VP.box (h : VP W w p B R k l d U) : w.heap[B]? = some (.cells (p.cells R k) 87 (0, 0)) := Has.boxed h
theorem VP.row (h : VP W w p B R k l d U) : w.ownsRow 0 37 3 p.av l.length (sgC l) := (Has.right h).row
theorem VP.mm (h : VP W w p B R k l d U) : Mb.MapIs w p.mM (mmV d) p.n1 := (Has.right (Has.right h)).mbIs
theorem VP.en (h : VP W w p B R k l d U) : Me.MapIs w p.mE (enV d) p.n2 := (Has.right (Has.right (Has.right h))).meIs
theorem VP.fi (h : VP W w p B R k l d U) : Ms.MapIs w p.mF (fiV d) p.n3 := (Has.right (Has.right (Has.right (Has.right h)))).mapIs
theorem VP.ab (h : VP W w p B R k l d U) : Ms.MapIs w p.mA (abV d) p.n4 := (Has.right (Has.right (Has.right (Has.right (Has.right h))))).mapIs
theorem VP.hd (h : VP W w p B R k l d U) : w.ownsRow 0 68 4 p.hv d.hd.length (cC d.hd) := (Has.right (Has.right (Has.right (Has.right (Has.right (Has.right h)))))).row
theorem VP.fr {w' : World} (h : VP W w p B R k l d U) (hf : Fr w w') : VP W w' p B R k l d U := Has.fr h hf
theorem VP.cell (h : VP W w p B R k l d U) (i : Nat) (v : Value) (hv : (p.cells R k)[i]? = some v) : w.cell? ⟨B, i, none⟩ = some v := cellOf h.box hv
end

/-! ### Getters -/
section
variable {W w : World} {B R : Nat} {k : Int} {l : List Sg} {d : VD} {U : Thing}
set_option maxRecDepth 100000 in
theorem vkey (h : Has W w ((ViewT B R k l d).sep U)) : Calls Tryd.prog 53 #[.pointer (some ⟨B, 0, none⟩)] w fun e w' => e = .returned (.int .i64 k) ∧ w' = w := by
  obtain ⟨p, hp⟩ := h.vopen
  have c1 := hp.cell 1 (.int .i64 k) rfl
  clear hp h
  go_enter Tryd.func53, Tryd.ntmps53
  go_wp2_with fail
  go_ret
  exact ⟨rfl, rfl⟩
def absV : Option Int → Value
  | none => .tuple #[.int .i64 0, .bool false]
  | some n => .tuple #[.int .i64 n, .bool true]
/-- What Size returns. -/
def szN (d : VD) : Int := match d.hd.getLast? with | none => 0 | some h => h.n
def szT (d : VD) : Int := match d.hd.getLast? with | none => -1 | some h => h.t
set_option maxRecDepth 100000 in
theorem vplace (h : Has W w ((ViewT B R k l d).sep U)) (hs : Srt d.hd) (hn : d.hd.length ≤ 1000000) (c : C) : Calls Tryd.prog 49 #[.pointer (some ⟨B, 0, none⟩), c.v] w fun e w' => e = .returned (.int .i64 (plc c.t d.hd)) ∧ Fr w w' := by
  obtain ⟨p, hp⟩ := h.vopen
  have hfA : Fr w (w.alloc (.cells #[.int .i64 c.k, .int .i64 c.n, .int .i64 c.t, .string (S c.s)] 68)).drew := (Fr.alloc w _).trans (Fr.drew _)
  have c7 := hfA.cell (hp.cell 7 p.hv rfl)
  obtain ⟨a0, a1, a2, a3⟩ := (CAt.new w c).fr (Fr.drew _)
  have HB := Lib.hid (fun w' (hf : Fr (w.alloc (.cells #[.int .i64 c.k, .int .i64 c.n, .int .i64 c.t, .string (S c.s)] 68)).drew w') => bsearch_any c.t w' ((ClSl.own hp.hd rfl).fr (hfA.trans hf)) hs hn)
  have HF := Lib.hid hfA
  generalize p.hv = hv at *
  clear hp h hs hn hfA
  unfold C.v
  go_enter Tryd.func49, Tryd.ntmps49
  go_upto_region 1 with fail
  generalize (w.alloc (.cells #[.int .i64 c.k, .int .i64 c.n, .int .i64 c.t, .string (S c.s)] 68)) = w1 at *
  go_region_with (go_at_call 61; refine (HB.out _ (by exact Fr.refl _)).mono ?_; rintro e w3 ⟨b, rfl, hf3⟩)
  all_goals go_wp2_with fail
  all_goals go_ret
  all_goals exact ⟨rfl, HF.out.trans hf3⟩
end
end Go.Proofs.YthppefkamklakaaDoor
