/-
  The journal in memory: a disk and a journal on it (JD), and what Len, Get, All, Sync and Append do to them.
-/
import Derived.Test.YtjcajgcfkidbkaaDoorJp
import Derived.Test.YtjcajgcfkidbkaaDoorGd
namespace Go.Proofs.YtjcajgcfkidbkaaDoor
open Go.RowKit

def jCells (B : Nat) (f : Int) (rv : Value) (rs : List (List UInt8)) (br : Bool) : Array Value := #[.pointer (some ⟨B, 0, none⟩), .int .i64 f, rv, .int .i64 ((Jm.forms rs).length : Nat), .bool br]
/-- A journal lies in block J: its disk (block B), file and records, and whether it is broken. -/
structure Jn (w : World) (J B : Nat) (f : Int) (rv : Value) (rs : List (List UInt8)) (br : Bool) : Prop where
  heap : w.heap[J]? = some (.cells (jCells B f rv rs br) 81 (0, 0))
  row : w.ownsRow 0 9 1 rv rs.length (strs rs)
/-- A disk in block B, and a journal on it in block J; O are their blocks, Od those of the disk. -/
structure JDAt (w : World) (O Od : Nat → Prop) (B J : Nat) (rv : Value) (s : RS) (f : Int) (rs : List (List UInt8)) (br : Bool) : Prop where
  dk : Dk w Od B s
  jn : Jn w J B f rv rs br
  sub : ∀ k, Od k → O k
  oJ : O J
  oR : ∀ p, rv.ownBlock = some p → O p
  nJ : ¬ Od J
  nR : ∀ p, rv.ownBlock = some p → ¬ Od p
  bound : ∀ k, O k → k < w.heap.size
def JD (w : World) (O : Nat → Prop) (B J : Nat) (s : RS) (f : Int) (rs : List (List UInt8)) (br : Bool) : Prop := ∃ Od rv, JDAt w O Od B J rv s f rs br
/-- A step of a disk and its journal. -/
def JDP (O : Nat → Prop) (w w' : World) (B J : Nat) (s : RS) (f : Int) (rs : List (List UInt8)) (br : Bool) : Prop := ∃ O', JD w' O' B J s f rs br ∧ (∀ k, O' k → Gr O w w' k) ∧ Own O w w'

theorem Jn.c0 {w : World} {J B : Nat} {f : Int} {rv : Value} {rs : List (List UInt8)} {br : Bool} (h : Jn w J B f rv rs br) : w.cell? ⟨J, 0, none⟩ = some (.pointer (some ⟨B, 0, none⟩)) := cellOf h.heap rfl
theorem Jn.c1 {w : World} {J B : Nat} {f : Int} {rv : Value} {rs : List (List UInt8)} {br : Bool} (h : Jn w J B f rv rs br) : w.cell? ⟨J, 1, none⟩ = some (.int .i64 f) := cellOf h.heap rfl
theorem Jn.c2 {w : World} {J B : Nat} {f : Int} {rv : Value} {rs : List (List UInt8)} {br : Bool} (h : Jn w J B f rv rs br) : w.cell? ⟨J, 2, none⟩ = some rv := cellOf h.heap rfl
theorem Jn.c3 {w : World} {J B : Nat} {f : Int} {rv : Value} {rs : List (List UInt8)} {br : Bool} (h : Jn w J B f rv rs br) : w.cell? ⟨J, 3, none⟩ = some (.int .i64 ((Jm.forms rs).length : Nat)) := cellOf h.heap rfl
theorem Jn.c4 {w : World} {J B : Nat} {f : Int} {rv : Value} {rs : List (List UInt8)} {br : Bool} (h : Jn w J B f rv rs br) : w.cell? ⟨J, 4, none⟩ = some (.bool br) := cellOf h.heap rfl
theorem Jn.fz {w : World} {J B : Nat} {f : Int} {rv : Value} {rs : List (List UInt8)} {br : Bool} (h : Jn w J B f rv rs br) (i : Nat) : w.frozen? ⟨J, i, none⟩ = false := frozenOf h.heap i
theorem Jn.lt {w : World} {J B : Nat} {f : Int} {rv : Value} {rs : List (List UInt8)} {br : Bool} (h : Jn w J B f rv rs br) : J < w.heap.size := (Array.getElem?_eq_some_iff.1 h.heap).1
theorem Jn.form {w : World} {J B : Nat} {f : Int} {rv : Value} {rs : List (List UInt8)} {br : Bool} (h : Jn w J B f rv rs br) : ∃ a c, rv = .slice a rs.length c := by
  rcases h.row.2 with ⟨e, h2⟩ | ⟨g, cap, cur, e, _⟩
  · have h3 := h.row.1
    rw [strs_len, Nat.mul_one] at h3
    exact ⟨none, 0, by rw [e, h2]⟩
  · exact ⟨_, _, e⟩
theorem Jn.keep {w w' : World} {J B : Nat} {f : Int} {rv : Value} {rs : List (List UInt8)} {br : Bool} (h : Jn w J B f rv rs br) (h1 : w'.heap[J]? = w.heap[J]?) (h2 : ∀ p, rv.ownBlock = some p → w'.heap[p]? = w.heap[p]?) : Jn w' J B f rv rs br :=
  ⟨h1.trans h.heap, ownsRow_heap h.row h2⟩
theorem Jn.own_lt {w : World} {J B : Nat} {f : Int} {rv : Value} {rs : List (List UInt8)} {br : Bool} (h : Jn w J B f rv rs br) : ∀ p, rv.ownBlock = some p → p < w.heap.size := fun p hp => (h.row.lt p hp).2
set_option maxRecDepth 100000 in
theorem Jn.ne {w : World} {J B : Nat} {f : Int} {rv : Value} {rs : List (List UInt8)} {br : Bool} (h : Jn w J B f rv rs br) : ∀ p, rv.ownBlock = some p → p ≠ J := row_ne h.row h.heap (by decide)

theorem heed_any {w : World} {J : Nat} {c : Array Value} (hh : w.heap[J]? = some (.cells c 81 (0, 0))) (_hc : c.size = 5) (e0 : Int) (b : Bool) (hb : b = (e0 != 0)) (h4 : ∃ b0, c[4]? = some (.bool b0)) :
    Calls Tryd.prog 54 #[.pointer (some ⟨J, 0, none⟩), .int .i64 e0] w fun e w' => e = .returned (.int .i64 e0) ∧ w' = w.setCell ⟨J, 4, none⟩ (.bool b) := by
  obtain ⟨b0, h4⟩ := h4
  have c4 : w.cell? ⟨J, 4, none⟩ = some (.bool b0) := cellOf hh h4
  have f4 : w.frozen? ⟨J, 4, none⟩ = false := frozenOf hh 4
  subst hb
  go_enter Tryd.func54, Tryd.ntmps54
  go_wp2
  go_ret
  exact ⟨rfl, rfl⟩

set_option maxRecDepth 100000 in
theorem len_any {w : World} {J B : Nat} {f : Int} {rv : Value} {rs : List (List UInt8)} {br : Bool} (h : Jn w J B f rv rs br) :
    Calls Tryd.prog 44 #[.pointer (some ⟨J, 0, none⟩)] w fun e w' => e = .returned (.int .i64 (rs.length : Nat)) ∧ w' = w := by
  obtain ⟨a, c, rfl⟩ := h.form
  have c2 := h.c2
  go_enter Tryd.func44, Tryd.ntmps44
  go_wp2
  go_ret
  exact ⟨rfl, rfl⟩

/-- A slice of its own, of strings. -/
def Row (w : World) (v : Value) (rs : List (List UInt8)) : Prop := w.ownsRow 0 9 1 v rs.length (strs rs)
theorem row_cells {w : World} {v : Value} {rs : List (List UInt8)} (h : Row w v rs) : (rs = [] ∧ ∃ a c, v = .slice a 0 c) ∨ ∃ b c, v = .slice (some ⟨b, 0, none⟩) rs.length c ∧ ∀ j (h : j < rs.length), w.cell? ⟨b, j, none⟩ = some (.string (S rs[j])) := by
  rcases h.2 with ⟨e, h2⟩ | ⟨g, cap, cur, e, _⟩
  · exact .inl ⟨List.length_eq_zero_iff.1 h2, none, 0, e⟩
  · refine .inr ⟨g, cap, e, fun j hj => ?_⟩
    have := World.ownsRow.cells h (g := g) (by rw [e]; rfl) j (.string (S rs[j])) (by simp [strs, hj])
    have e2 : (⟨g, 0, none⟩ : Addr).add j = ⟨g, j, none⟩ := by unfold Addr.add; split <;> simp_all
    rw [e2] at this; exact this
theorem Row.isSl {w : World} {v : Value} {rs : List (List UInt8)} (h : Row w v rs) : IsSl w v (rs.map (fun z => .string (S z))) := by
  rcases row_cells h with ⟨rfl, a, c, rfl⟩ | ⟨b, c, rfl, hc⟩
  · exact .inl ⟨rfl, a, c, rfl⟩
  · refine .inr ⟨b, 0, c, by rw [List.length_map], fun i x hx => ?_⟩
    rw [List.getElem?_map] at hx
    obtain ⟨hi, e⟩ : ∃ h : i < rs.length, Value.string (S rs[i]) = x := by
      rcases Nat.lt_or_ge i rs.length with hi | hi
      · rw [List.getElem?_eq_getElem hi] at hx; simp at hx; exact ⟨hi, hx⟩
      · rw [List.getElem?_eq_none hi] at hx; simp at hx
    rw [Nat.zero_add, ← e]; exact hc i hi

set_option maxRecDepth 100000 in
theorem get_any {w : World} {J B : Nat} {f : Int} {rv : Value} {rs : List (List UInt8)} {br : Bool} (h : Jn w J B f rv rs br) (i : Int) :
    Calls Tryd.prog 45 #[.pointer (some ⟨J, 0, none⟩), .int .i64 i] w fun e w' => e = .returned (.string (S (if i < 0 then [] else rs.getD i.toNat []))) ∧ w' = w := by
  have c2 := h.c2
  have hcells := row_cells h.row
  obtain ⟨a, c, hrv⟩ := h.form
  subst hrv
  by_cases h0 : i < 0
  · rw [if_pos h0]
    go_enter Tryd.func45, Tryd.ntmps45
    go_wp2
    go_ret
    exact ⟨rfl, rfl⟩
  · rw [if_neg h0]
    obtain ⟨k, rfl⟩ : ∃ k : Nat, i = k := ⟨i.toNat, by omega⟩
    have h0' : ¬ ((k : Int) < 0) := by omega
    by_cases h1 : k < rs.length
    · rcases hcells with ⟨rfl, _⟩ | ⟨b, c', e, hc⟩
      · simp at h1
      · obtain ⟨rfl, _⟩ : a = some ⟨b, 0, none⟩ ∧ c = c' := by simpa using e
        have ck := hc k h1
        have h1' : ¬ ((rs.length : Int) ≤ (k : Int)) := by omega
        have hg : rs.getD (k : Int).toNat [] = rs[k] := by simp [h1]
        rw [hg]
        have HC := Lib.hid hc
        clear hc e hg
        go_enter Tryd.func45, Tryd.ntmps45
        go_wp2
        go_ret
        exact ⟨rfl, rfl⟩
    · have h1' : (rs.length : Int) ≤ (k : Int) := by omega
      have hg : rs.getD (k : Int).toNat [] = [] := by rw [List.getD_eq_getElem?_getD, List.getElem?_eq_none (by omega)]; rfl
      rw [hg]
      clear hcells hg
      go_enter Tryd.func45, Tryd.ntmps45
      go_wp2
      go_ret
      exact ⟨rfl, rfl⟩

set_option maxRecDepth 100000 in
theorem all_any {w : World} {J B : Nat} {f : Int} {rv : Value} {rs : List (List UInt8)} {br : Bool} (h : Jn w J B f rv rs br) (hl : rs.length * 16 ≤ 140737488355328) :
    Calls Tryd.prog 29 #[.pointer (some ⟨J, 0, none⟩)] w fun e w' => ∃ v, e = .returned v ∧ w'.ownsRow w.heap.size 9 1 v rs.length (strs rs) ∧ Fr w w' := by
  have c2 := h.c2
  rcases row_cells h.row with ⟨rfl, a, c, rfl⟩ | ⟨b, c, rfl, hc⟩
  · cases a with
    | none =>
      go_enter Tryd.func29, Tryd.ntmps29
      go_wp2_with fail
      refine (Tryd.slices_Clone_string_nil _ _ _).mono ?_
      rintro e w1 ⟨rfl, rfl⟩
      go_wp2_with fail
      go_ret
      exact ⟨_, rfl, World.ownsRow_nil _ _ _ _, Fr.refl _⟩
    | some a =>
      go_enter Tryd.func29, Tryd.ntmps29
      go_wp2_with fail
      refine (Tryd.slices_Clone_string_zero _ _ _).mono ?_
      rintro e w1 ⟨v, rfl, hr, _, hb⟩
      go_wp2_with fail
      go_ret
      exact ⟨_, rfl, hr, Fr.of_below hb⟩
  · have H := Lib.hid hc
    clear hc
    go_enter Tryd.func29, Tryd.ntmps29
    go_wp2_with fail
    refine (Tryd.slices_Clone_string b 0 rs.length c (rs.map S) _ (by simp) hl (fun j hj => ?_)).mono ?_
    · have hj' : j < rs.length := by simpa using hj
      rw [Nat.zero_add, H.out j hj']; simp [hj']
    rintro e w1 ⟨v, rfl, hr, _, hb⟩
    go_wp2_with fail
    go_ret
    refine ⟨_, rfl, ?_, Fr.of_below hb⟩
    have : ((rs.map S).take rs.length).map Value.string = strs rs := by rw [List.take_of_length_le (by simp)]; simp [strs]
    rw [← this]; exact hr

/-- The disk has made a step. -/
theorem JDAt.disk {w w' : World} {O Od : Nat → Prop} {B J : Nat} {rv : Value} {s s' : RS} {f : Int} {rs : List (List UInt8)} {br : Bool} (h : JDAt w O Od B J rv s f rs br) (hp : DkP Od w w' B s') :
    ∃ Od', JDAt w' (fun k => O k ∨ Od' k) Od' B J rv s' f rs br ∧ (∀ k, (O k ∨ Od' k) → Gr O w w' k) ∧ Own O w w' := by
  obtain ⟨Od', h1, g1, o1⟩ := hp
  have hk : ∀ k, k < w.heap.size → ¬ Od k → ¬ Od' k := fun k hk hn h2 => by
    rcases g1 k h2 with h3 | h3
    · exact hn h3
    · omega
  have hs := o1.size
  refine ⟨Od', ⟨h1, h.jn.keep (o1.block J h.jn.lt h.nJ) (fun p hp => o1.block p (h.jn.own_lt p hp) (h.nR p hp)), fun k hk => .inr hk, .inl h.oJ, fun p hp => .inl (h.oR p hp), hk J h.jn.lt h.nJ, fun p hp => hk p (h.jn.own_lt p hp) (h.nR p hp), fun k hk => ?_⟩, fun k hk => ?_, o1.mono h.sub⟩
  · rcases hk with hk | hk
    · exact Nat.lt_of_lt_of_le (h.bound k hk) hs
    · exact h1.bound k hk
  · rcases hk with hk | hk
    · exact .inl hk
    · rcases g1 k hk with h3 | h3
      · exact .inl (h.sub k h3)
      · exact .inr h3
/-- Only the journal's block has changed. -/
theorem JDAt.mark {w : World} {O Od : Nat → Prop} {B J : Nat} {rv : Value} {s : RS} {f : Int} {rs : List (List UInt8)} {br : Bool} (h : JDAt w O Od B J rv s f rs br) (b : Bool) :
    JDAt (w.setCell ⟨J, 4, none⟩ (.bool b)) O Od B J rv s f rs b ∧ Own O w (w.setCell ⟨J, 4, none⟩ (.bool b)) := by
  have ho : ∀ k, k ≠ J → (w.setCell ⟨J, 4, none⟩ (.bool b)).heap[k]? = w.heap[k]? := fun k hk => heap_setCell_other w ⟨J, 4, none⟩ k _ hk
  have hsz : (w.setCell ⟨J, 4, none⟩ (.bool b)).heap.size = w.heap.size := by simp [World.setCell]
  refine ⟨⟨h.dk.frame (by rw [hsz]; exact Nat.le_refl _) (fun k hk => ho k (fun e => h.nJ (e ▸ hk))), ⟨?_, ownsRow_heap h.jn.row (fun p hp => ho p (h.jn.ne p hp))⟩, h.sub, h.oJ, h.oR, h.nJ, h.nR, fun k hk => by rw [hsz]; exact h.bound k hk⟩, ?_⟩
  · rw [heapB h.jn.heap]; rfl
  · exact ⟨rfl, rfl, rfl, by rw [hsz]; exact Nat.le_refl _, fun k _ hn => ho k (fun e => hn (by rw [e]; exact h.oJ))⟩

theorem JDAt.fr {w w' : World} {O Od : Nat → Prop} {B J : Nat} {rv : Value} {s : RS} {f : Int} {rs : List (List UInt8)} {br : Bool} (h : JDAt w O Od B J rv s f rs br) (hf : Fr w w') : JDAt w' O Od B J rv s f rs br :=
  ⟨h.dk.fr hf, h.jn.keep (World.grownBy.block hf J h.jn.lt (by simp)) (fun p hp => World.grownBy.block hf p (h.jn.own_lt p hp) (by simp)), h.sub, h.oJ, h.oR, h.nJ, h.nR, fun k hk => Nat.lt_of_lt_of_le (h.bound k hk) hf.size⟩
theorem JD.fr {w w' : World} {O : Nat → Prop} {B J : Nat} {s : RS} {f : Int} {rs : List (List UInt8)} {br : Bool} (h : JD w O B J s f rs br) (hf : Fr w w') : JD w' O B J s f rs br :=
  let ⟨Od, rv, h'⟩ := h; ⟨Od, rv, h'.fr hf⟩
theorem JDP.of_fr {O : Nat → Prop} {w w' : World} {B J : Nat} {s : RS} {f : Int} {rs : List (List UInt8)} {br : Bool} (h : JD w O B J s f rs br) (hf : Fr w w') : JDP O w w' B J s f rs br := ⟨O, h.fr hf, Gr.self, Own.of_fr hf⟩
theorem JDP.comb {O O1 : Nat → Prop} {a b c : World} {B J : Nat} {s : RS} {f : Int} {rs : List (List UInt8)} {br : Bool} (hG : ∀ k, O1 k → Gr O a b k) (hW : Own O a b) (h : JDP O1 b c B J s f rs br) : JDP O a c B J s f rs br :=
  let ⟨O2, h2, g2, w2⟩ := h
  ⟨O2, h2, fun k hk => Gr.trans hW.size w2.size hG k (g2 k hk), hW.trans hG w2⟩
theorem JDP.fr_left {O : Nat → Prop} {a b c : World} {B J : Nat} {s : RS} {f : Int} {rs : List (List UInt8)} {br : Bool} (hf : Fr a b) (h : JDP O b c B J s f rs br) : JDP O a c B J s f rs br := JDP.comb Gr.self (Own.of_fr hf) h
/-- The disk has made a step, and then the journal's mark is set. -/
theorem JDAt.disk_mark {w w1 w2 : World} {O Od1 : Nat → Prop} {B J : Nat} {rv : Value} {s1 : RS} {f : Int} {rs : List (List UInt8)} {br : Bool} (hf : Fr w w1) (h1 : JDAt w2 (fun k => O k ∨ Od1 k) Od1 B J rv s1 f rs br) (hg : ∀ k, (O k ∨ Od1 k) → Gr O w1 w2 k) (ho : Own O w1 w2) (b : Bool) :
    JDP O w (w2.setCell ⟨J, 4, none⟩ (.bool b)) B J s1 f rs b :=
  JDP.fr_left hf (JDP.comb hg ho ⟨_, ⟨Od1, rv, (h1.mark b).1⟩, Gr.self, (h1.mark b).2⟩)

/-- Sync of a journal that is not broken. -/
theorem jsync_go {w : World} {O : Nat → Prop} {B J : Nat} {s : RS} {f : Int} {rs : List (List UInt8)} (h : JD w O B J s f rs false) (hI : Good s) :
    Calls Tryd.prog 18 #[.pointer (some ⟨J, 0, none⟩)] w fun e w' => e = .returned (.int .i64 (syncE s f)) ∧ JDP O w w' B J (syncS s f) f rs (syncE s f != 0) := by
  obtain ⟨Od, rv, hj⟩ := h
  have c0 := hj.jn.c0
  have c1 := hj.jn.c1
  have c4 := hj.jn.c4
  have HD := Lib.hid (hj.dk.fr (Fr.drew w))
  have HJ := Lib.hid hj
  have hlost := (good_strike hI).lost
  generalize hE : syncE s f = E at *
  have HE := Lib.hid hE
  clear hE hj
  go_enter Tryd.func18, Tryd.ntmps18
  go_wp2_with fail
  go_region_with (first | (go_at_call 46; refine (sync_any Od B f s w.drew HD.out hI.inv hI.calls hlost).mono ?_; rintro e w2 ⟨rfl, hp2⟩; rw [HE.out]; obtain ⟨Od2, hj2, g2, o2⟩ := (HJ.out.fr (Fr.drew w)).disk hp2; have HJ2 := Lib.hid hj2; have HG2 := Lib.hid g2; have HO2 := Lib.hid o2; clear hp2 hj2 g2 o2) | (go_at_call 54; refine (heed_any HJ2.out.jn.heap rfl E _ rfl ⟨false, rfl⟩).mono ?_; rintro e w3 ⟨rfl, rfl⟩))
  all_goals
    go_wp2_with fail
    go_ret
    exact ⟨rfl, JDAt.disk_mark (Fr.drew w) HJ2.out HG2.out HO2.out _⟩
set_option maxRecDepth 100000 in
theorem jsync_broken {w : World} {J B : Nat} {f : Int} {rv : Value} {rs : List (List UInt8)} (h : Jn w J B f rv rs true) :
    Calls Tryd.prog 18 #[.pointer (some ⟨J, 0, none⟩)] w fun e w' => e = .returned (.int .i64 7) ∧ w' = w := by
  have c4 := h.c4
  go_enter Tryd.func18, Tryd.ntmps18
  go_wp2
  go_ret
  exact ⟨rfl, rfl⟩

/-- A record is put behind the others. -/
theorem JDAt.appended {w w4 : World} {O Od : Nat → Prop} {B J g cap : Nat} {rv : Value} {s : RS} {f : Int} {rs : List (List UInt8)} {r : List UInt8} {br : Bool} {o : Obj} {n : Int} (h : JDAt w O Od B J rv s f rs br)
    (hown : w4.ownsRow 0 9 1 (.slice (some ⟨g, 0, none⟩) (rs.length + 1) cap) (rs.length + 1) (strs rs ++ [.string (S r)])) (hgr : (w.alloc o).grownBy w4 rv.ownBlock) (hg : rv.ownBlock = some g ∨ g = w.heap.size + 1) (hn : n = ((Jm.forms (rs ++ [r])).length : Nat)) :
    JDP O w ((w4.setCell ⟨J, 2, none⟩ (.slice (some ⟨g, 0, none⟩) (rs.length + 1) cap)).setCell ⟨J, 3, none⟩ (.int .i64 n)) B J s f (rs ++ [r]) br := by
  subst hn
  obtain ⟨w6, hw6⟩ : ∃ w6, w6 = (w4.setCell ⟨J, 2, none⟩ (.slice (some ⟨g, 0, none⟩) (rs.length + 1) cap)).setCell ⟨J, 3, none⟩ (.int .i64 ((Jm.forms (rs ++ [r])).length : Nat)) := ⟨_, rfl⟩
  rw [← hw6]
  have hsA : (w.alloc o).heap.size = w.heap.size + 1 := by simp
  have hs4 := hgr.size
  rw [hsA] at hs4
  have hs6 : w6.heap.size = w4.heap.size := by rw [hw6]; simp [World.setCell]
  have ho6 : ∀ k, k ≠ J → w6.heap[k]? = w4.heap[k]? := fun k hk => by rw [hw6, heap_setCell_other _ ⟨J, 3, none⟩ k _ hk, heap_setCell_other _ ⟨J, 2, none⟩ k _ hk]
  have hk4 : ∀ k, k < w.heap.size → rv.ownBlock ≠ some k → w4.heap[k]? = w.heap[k]? := fun k hk hne => by
    rw [hgr.block k (by omega) (fun e => hne e.symm)]
    exact World.grownBy.block (Fr.alloc w o) k hk (by simp)
  have hJl := h.jn.lt
  have hJr : rv.ownBlock ≠ some J := fun e => h.jn.ne J e rfl
  have hJ4 : w4.heap[J]? = some (.cells (jCells B f rv rs br) 81 (0, 0)) := (hk4 J hJl hJr).trans h.jn.heap
  have hJ6 : w6.heap[J]? = some (.cells (jCells B f (.slice (some ⟨g, 0, none⟩) (rs.length + 1) cap) (rs ++ [r]) br) 81 (0, 0)) := by
    rw [hw6, heapB (heapB hJ4)]; rfl
  have hglt : g < w4.heap.size := (hown.lt g rfl).2
  have hgJ : g ≠ J := by
    rcases hg with hg | hg
    · exact h.jn.ne g hg
    · omega
  have hd : ∀ k, Od k → w6.heap[k]? = w.heap[k]? := fun k hk => by
    have hkl := h.bound k (h.sub k hk)
    rw [ho6 k (fun e => h.nJ (e ▸ hk))]
    exact hk4 k hkl (fun e => h.nR k e hk)
  have hgO : ∀ k, (O k ∨ k = g) → Gr O w w6 k := fun k hk => by
    rcases hk with hk | rfl
    · exact .inl hk
    · rcases hg with hg | hg
      · exact .inl (h.oR _ hg)
      · exact .inr ⟨by omega, by omega⟩
  refine ⟨fun k => O k ∨ k = g, ⟨Od, .slice (some ⟨g, 0, none⟩) (rs.length + 1) cap, h.dk.frame (by omega) hd, ⟨hJ6, ?_⟩, fun k hk => .inl (h.sub k hk), .inl h.oJ, fun p hp => ?_, h.nJ, fun p hp => ?_, fun k hk => ?_⟩, hgO, ?_⟩
  · rw [List.length_append, strs_snoc]
    exact ownsRow_heap hown (fun p hp => by obtain rfl : g = p := Option.some.inj hp; exact ho6 _ hgJ)
  · obtain rfl : g = p := Option.some.inj hp
    exact .inr rfl
  · obtain rfl : g = p := Option.some.inj hp
    rcases hg with hg | hg
    · exact h.nR _ hg
    · exact fun hd => by have := h.bound g (h.sub g hd); omega
  · rcases hk with hk | rfl
    · have := h.bound k hk; omega
    · omega
  · refine ⟨?_, ?_, ?_, by omega, fun k hk hn => ?_⟩
    · rw [hw6]; exact hgr.os
    · rw [hw6]; exact hgr.tape
    · rw [hw6]; exact hgr.output
    · rw [ho6 k (fun e => hn (e ▸ h.oJ))]
      exact hk4 k hk (fun e => hn (h.oR k e))

end Go.Proofs.YtjcajgcfkidbkaaDoor
