/-
  Facts in memory (FtOk, FtAt, FsSl), pointers to facts (Pt); nameOf, after, right.
-/
import Derived.Test.YtddeblcoglhdnaaKe
namespace Go.Proofs.Ytddeblcoglhdnaa
open Go.RowKit Mb

/-- The cells of a fact are what is read of it. -/
structure FtOk (w : World) (f : Ft) : Prop where
  len : f.cs.length = 29
  one : ∀ v ∈ f.cs, v.oneCell' = true
  c0 : f.cs[0]? = some (.int .i64 f.kind)
  c1 : f.cs[1]? = some (.string (S f.name))
  c5 : f.cs[5]? = some (.string (S f.rname))
  c15 : f.cs[15]? = some (.string (S f.aname))
  c24 : ∃ kv, f.cs[24]? = some kv ∧ Sl w kv f.keys
  c25 : f.cs[25]? = some (.int .i64 f.need)
  c26 : f.cs[26]? = some (.int .i64 f.til)
theorem FtOk.fr {w w' : World} {f : Ft} (h : FtOk w f) (hf : Fr w w') : FtOk w' f :=
  ⟨h.len, h.one, h.c0, h.c1, h.c5, h.c15, let ⟨kv, h1, h2⟩ := h.c24; ⟨kv, h1, h2.fr hf⟩, h.c25, h.c26⟩
/-- A fact lies from place o of block b on. -/
structure FtAt (w : World) (b o : Nat) (f : Ft) : Prop where
  ok : FtOk w f
  at' : w.rangeAt b o f.cs
theorem FtAt.fr {w w' : World} {b o : Nat} {f : Ft} (h : FtAt w b o f) (hf : Fr w w') : FtAt w' b o f := ⟨h.ok.fr hf, fun j v hj => hf.cell (h.at' j v hj)⟩
theorem FtAt.kind {w : World} {b o : Nat} {f : Ft} (h : FtAt w b o f) : w.cell? ⟨b, o, none⟩ = some (.int .i64 f.kind) := h.at' 0 _ h.ok.c0
theorem FtAt.name {w : World} {b o : Nat} {f : Ft} (h : FtAt w b o f) : w.cell? ⟨b, o + 1, none⟩ = some (.string (S f.name)) := h.at' 1 _ h.ok.c1
theorem FtAt.rname {w : World} {b o : Nat} {f : Ft} (h : FtAt w b o f) : w.cell? ⟨b, o + 5, none⟩ = some (.string (S f.rname)) := h.at' 5 _ h.ok.c5
theorem FtAt.aname {w : World} {b o : Nat} {f : Ft} (h : FtAt w b o f) : w.cell? ⟨b, o + 15, none⟩ = some (.string (S f.aname)) := h.at' 15 _ h.ok.c15
theorem FtAt.keys {w : World} {b o : Nat} {f : Ft} (h : FtAt w b o f) : ∃ kv, w.cell? ⟨b, o + 24, none⟩ = some kv ∧ Sl w kv f.keys := let ⟨kv, h1, h2⟩ := h.ok.c24; ⟨kv, h.at' 24 _ h1, h2⟩
theorem FtAt.need {w : World} {b o : Nat} {f : Ft} (h : FtAt w b o f) : w.cell? ⟨b, o + 25, none⟩ = some (.int .i64 f.need) := h.at' 25 _ h.ok.c25
theorem FtAt.til {w : World} {b o : Nat} {f : Ft} (h : FtAt w b o f) : w.cell? ⟨b, o + 26, none⟩ = some (.int .i64 f.til) := h.at' 26 _ h.ok.c26
/-- A fact in a block that has just been made. -/
theorem FtAt.new {w : World} {f : Ft} (h : FtOk w f) (t : TypeId) : FtAt (w.alloc (.cells f.cs.toArray t)) w.heap.size 0 f :=
  ⟨h.fr (Fr.alloc w _), fun j v hj => by
    rw [Nat.zero_add, cellOf (MapKept.heap_alloc w (.cells f.cs.toArray t)).1 (i := j) (v := v) (by simpa using hj)]⟩
/-- What is asked of a fact. -/
structure FB (f : Ft) : Prop where
  keys : Ok f.keys
  nlen : (nm f).length ≤ 9223372036854775807
/-- Facts lie from place o of block b on. -/
def FsAt (w : World) (b o : Nat) (l : List Ft) : Prop := ∀ (i : Nat) (h : i < l.length), FtAt w b (o + i * 29) l[i]
theorem FsAt.fr {w w' : World} {b o : Nat} {l : List Ft} (h : FsAt w b o l) (hf : Fr w w') : FsAt w' b o l := fun i hi => (h i hi).fr hf
theorem FsAt.take {w : World} {b o : Nat} {l : List Ft} (h : FsAt w b o l) (k : Nat) : FsAt w b o (l.take k) := fun i hi => by
  have hi' : i < l.length := by rw [List.length_take] at hi; omega
  rw [List.getElem_take]; exact h i hi'
/-- A slice of facts: empty, or facts at an address. -/
def FSl (w : World) (v : Value) (l : List Ft) : Prop := (l = [] ∧ ∃ a c, v = .slice a 0 c) ∨ ∃ b o c, v = .slice (some ⟨b, o, none⟩) l.length c ∧ FsAt w b o l ∧ l.length ≤ c
theorem FSl.fr {w w' : World} {v : Value} {l : List Ft} (h : FSl w v l) (hf : Fr w w') : FSl w' v l := by
  rcases h with h | ⟨b, o, c, hv, hc, hl⟩
  · exact .inl h
  · exact .inr ⟨b, o, c, hv, hc.fr hf, hl⟩
theorem FSl.len {w : World} {v : Value} {l : List Ft} (h : FSl w v l) : ∃ a c, v = .slice a l.length c := by
  rcases h with ⟨rfl, a, c, rfl⟩ | ⟨b, o, c, rfl, _⟩
  · exact ⟨a, c, rfl⟩
  · exact ⟨_, _, rfl⟩
theorem FSl.at {w : World} {av : Option Addr} {n c : Nat} {l : List Ft} (h : FSl w (.slice av n c) l) (k : Nat) (hk : k < l.length) : ∃ g o, av = some ⟨g, o, none⟩ ∧ FtAt w g (o + k * 29) l[k] := by
  rcases h with ⟨rfl, _⟩ | ⟨g, o, c, hv, hc, _⟩
  · simp at hk
  · cases hv; exact ⟨g, o, rfl, hc k hk⟩
theorem FSl.take {w : World} {av : Option Addr} {n c : Nat} {l : List Ft} (h : FSl w (.slice av n c) l) (k : Nat) (hk : k ≤ l.length) : FSl w (.slice av k c) (l.take k) := by
  rcases h with ⟨rfl, a, c', hv⟩ | ⟨g, o, c', hv, hc, hl⟩
  · cases hv
    have : k = 0 := by simpa using hk
    subst this
    exact .inl ⟨rfl, _, _, rfl⟩
  · cases hv
    refine .inr ⟨g, o, c, ?_, hc.take k, ?_⟩
    · rw [List.length_take, Nat.min_eq_left hk]
    · rw [List.length_take]; omega
theorem FSl.cap {w : World} {av : Option Addr} {n c : Nat} {l : List Ft} (h : FSl w (.slice av n c) l) (h0 : 0 < l.length) : l.length ≤ c := by
  rcases h with ⟨rfl, _⟩ | ⟨g, o, c', hv, hc, hl⟩
  · simp at h0
  · cases hv; exact hl
/-- What is asked of a list of facts. -/
structure LB (l : List Ft) : Prop where
  len : l.length ≤ 1000000
  mem : ∀ f ∈ l, FB f
theorem LB.get {l : List Ft} (h : LB l) {k : Nat} (hk : k < l.length) : FB l[k] := h.mem _ (List.getElem_mem hk)
theorem LB.take {l : List Ft} (h : LB l) (k : Nat) : LB (l.take k) := ⟨by have := h.len; rw [List.length_take]; omega, fun f hf => h.mem f (List.mem_of_mem_take hf)⟩
/-- A pointer to a fact, or to none. -/
def Pt (w : World) (v : Value) (x : Option Ft) : Prop := (v = .pointer none ∧ x = none) ∨ ∃ b o f, v = .pointer (some ⟨b, o, none⟩) ∧ x = some f ∧ FtAt w b o f ∧ FB f
theorem Pt.fr {w w' : World} {v : Value} {x : Option Ft} (h : Pt w v x) (hf : Fr w w') : Pt w' v x := by
  rcases h with h | ⟨b, o, f, h1, h2, h3, h4⟩
  · exact .inl h
  · exact .inr ⟨b, o, f, h1, h2, h3.fr hf, h4⟩
theorem Pt.none (w : World) : Pt w (.pointer none) none := .inl ⟨rfl, rfl⟩

set_option maxRecDepth 100000 in
theorem nameOf_any (b o : Nat) (f : Ft) (w : World) (h : FtAt w b o f) :
    Calls Try.prog 30 #[.pointer (some ⟨b, o, none⟩)] w fun e w' => e = .returned (.string (S (nm f))) ∧ w' = w := by
  have c0 := h.kind
  by_cases h0 : f.kind = 0
  · have hn : nm f = f.rname := by unfold nm; rw [if_pos h0]
    rw [hn]
    have c5 := h.rname
    rw [h0] at c0
    clear h h0 hn
    go_enter Try.func30, Try.ntmps30
    go_wp2_with fail
    go_ret
    exact ⟨rfl, rfl⟩
  · by_cases h3 : f.kind = 3
    · have hn : nm f = f.aname := by unfold nm; rw [if_neg h0, if_pos h3]
      rw [hn]
      have c15 := h.aname
      rw [h3] at c0
      clear h h0 h3 hn
      go_enter Try.func30, Try.ntmps30
      go_wp2_with fail
      go_ret
      exact ⟨rfl, rfl⟩
    · have hn : nm f = f.name := nm_of h0 h3
      rw [hn]
      have c1 := h.name
      have e0 : (f.kind == 0) = false := by simpa using h0
      have e3 : (f.kind == 3) = false := by simpa using h3
      clear h h0 h3 hn
      go_enter Try.func30, Try.ntmps30
      go_wp2_with fail
      go_ret
      exact ⟨rfl, rfl⟩

/-- A fact as a value. -/
def Ft.v (f : Ft) : Value := .agg f.cs.toArray
set_option maxRecDepth 100000 in
theorem rname_any (f : Ft) (w : World) (h : FtOk w f) :
    Calls Try.prog 24 #[f.v] w fun e w' => e = .returned (.string (S (nm f))) ∧ Fr w w' := by
  have hA := FtAt.new h 39
  have HF := Lib.hid (Fr.alloc w (.cells f.cs.toArray 39))
  have c0 := hA.kind
  have c1 := hA.name
  have c5 := hA.rname
  have c15 := hA.aname
  simp only [Nat.zero_add] at c0 c1 c5 c15
  unfold Ft.v
  clear h hA
  by_cases h0 : f.kind = 0
  · have hn : nm f = f.rname := by unfold nm; rw [if_pos h0]
    rw [hn]
    rw [h0] at c0
    clear h0 hn
    go_enter Try.func24, Try.ntmps24
    go_wp2_with fail
    go_ret
    exact ⟨rfl, HF.out⟩
  · by_cases h3 : f.kind = 3
    · have hn : nm f = f.aname := by unfold nm; rw [if_neg h0, if_pos h3]
      rw [hn]
      rw [h3] at c0
      clear h0 h3 hn
      go_enter Try.func24, Try.ntmps24
      go_wp2_with fail
      go_ret
      exact ⟨rfl, HF.out⟩
    · have hn : nm f = f.name := nm_of h0 h3
      rw [hn]
      have e0 : (f.kind == 0) = false := by simpa using h0
      have e3 : (f.kind == 3) = false := by simpa using h3
      clear h0 h3 hn
      go_enter Try.func24, Try.ntmps24
      go_wp2_with fail
      go_ret
      exact ⟨rfl, HF.out⟩
end Go.Proofs.Ytddeblcoglhdnaa
