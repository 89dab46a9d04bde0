/-
  Package disk: New, Size, Down, Start, Lose.
-/
import Derived.Test.YtjcajgcfkidbkaaDoorSt
import Derived.Lib.Hide
namespace Go.Proofs.YtjcajgcfkidbkaaDoor
open Go.RowKit

def newS : RS := ⟨fun _ _ => 0, fun _ _ => 0, fun _ _ => false, fun _ => 0, fun _ => 0, [], 0, 0, [], false⟩
/-- A new disk at some block. -/
def NewP (w : World) (e : Ending) (w' : World) : Prop := ∃ B, e = .returned (.pointer (some ⟨B, 0, none⟩)) ∧ DkP (fun _ => False) w w' B newS

def newC (M : Nat) : Array Value := #[.map (some M), .int .i64 0, .int .i64 0, .int .i64 0, .int .i64 0, .int .i64 0, .int .i64 0, .int .i64 0, .int .i64 0, .int .i64 0, .int .i64 0, .int .i64 0, .int .i64 0, .int .i64 0, .int .i64 0, .int .i64 0, .int .i64 0, .int .i64 0, .int .i64 0, .int .i64 0, .int .i64 0, .int .i64 0, .int .i64 0, .int .i64 0, .int .i64 0, .int .i64 0, .int .i64 0, .int .i64 0, .int .i64 0, .int .i64 0, .int .i64 0, .int .i64 0, .int .i64 0, .slice none 0 0, .int .i64 0, .int .i64 0, .slice none 0 0, .bool false]
theorem newC_size (M : Nat) : (newC M).size = 38 := rfl
theorem zeroBlk (M : Nat) : Blk (newC M) M (.slice none 0 0) (.slice none 0 0) newS := by
  refine ⟨rfl, rfl, fun f hf => ?_, fun f hf => ?_, rfl, rfl, rfl, rfl, rfl⟩
  · rcases (show f = 0 ∨ f = 1 ∨ f = 2 ∨ f = 3 ∨ f = 4 ∨ f = 5 ∨ f = 6 ∨ f = 7 ∨ f = 8 ∨ f = 9 ∨ f = 10 ∨ f = 11 ∨ f = 12 ∨ f = 13 ∨ f = 14 ∨ f = 15 by omega) with rfl | rfl | rfl | rfl | rfl | rfl | rfl | rfl | rfl | rfl | rfl | rfl | rfl | rfl | rfl | rfl <;> rfl
  · rcases (show f = 0 ∨ f = 1 ∨ f = 2 ∨ f = 3 ∨ f = 4 ∨ f = 5 ∨ f = 6 ∨ f = 7 ∨ f = 8 ∨ f = 9 ∨ f = 10 ∨ f = 11 ∨ f = 12 ∨ f = 13 ∨ f = 14 ∨ f = 15 by omega) with rfl | rfl | rfl | rfl | rfl | rfl | rfl | rfl | rfl | rfl | rfl | rfl | rfl | rfl | rfl | rfl <;> rfl

theorem MapIs_made (w : World) : MapIs (w.alloc (.map #[] 0)) w.heap.size (fun _ _ => none) :=
  ⟨#[], 0, heap_alloc_new w _, MapKept.stamped_empty 0, by simp, by simp⟩

theorem newP_at (w : World) : NewP w (.returned (.pointer (some ⟨w.heap.size + 1, 0, none⟩))) ((w.alloc (.map #[] 0)).alloc (.cells (newC w.heap.size) 71)) := by
  have hs : ((w.alloc (.map #[] 0)).alloc (.cells (newC w.heap.size) 71)).heap.size = w.heap.size + 2 := by simp
  refine ⟨w.heap.size + 1, rfl, fun k => w.heap.size ≤ k ∧ k < w.heap.size + 2, ⟨w.heap.size, _, .slice none 0 0, .slice none 0 0, ⟨?_, ?_, ?_, ?_, ?_, heap_alloc2_new w _ _, zeroBlk _, ?_, ?_, ?_⟩⟩, ?_, ?_⟩
  · intro k hk; rw [hs]; exact hk.2
  · show _ ∧ _; omega
  · show _ ∧ _; omega
  · intro p hp; simp [Value.ownBlock] at hp
  · intro p hp; simp [Value.ownBlock] at hp
  · refine ⟨_, (MapIs_made w).heap ((Fr.alloc _ _).block (by simp)), fun f n _ => ?_⟩
    show zeroSec = _
    unfold zeroSec
    rw [zeroL_sec]; rfl
  · exact World.ownsRow_nil _ _ _ _
  · exact World.ownsRow_nil _ _ _ _
  · intro k hk; exact .inr (by rw [hs]; exact hk)
  · exact (Own.of_fr (Fr.alloc _ _)).trans (O1 := fun _ => False) (fun _ h => h.elim) (Own.of_fr (Fr.alloc _ _))

set_option maxHeartbeats 1000000 in
set_option maxRecDepth 100000 in
theorem new_any (w : World) : Calls Tryd.prog 10 #[] w (NewP w) := by
  have hmm := @run_makeMap Tryd.prog
  go_enter Tryd.func10, Tryd.ntmps10
  go_wp2
  go_ret
  exact newP_at w

set_option maxRecDepth 100000 in
theorem size_yes (O : Nat → Prop) (B f : Nat) (s : RS) (w : World) (h : Dk w O B s) (hf : f < 16) :
    Calls Tryd.prog 31 #[.pointer (some ⟨B, 0, none⟩), .int .i64 f] w fun e w' => e = .returned (.int .i64 (s.sz f)) ∧ w' = w := by
  obtain ⟨M, C, pv, kv, hd⟩ := h
  have c1 := cellOf hd.heap (hd.blk.sz f hf)
  clear hd
  go_enter Tryd.func31, Tryd.ntmps31
  go_wp2_with (go_at_call 60; refine (isFile_yes f _ (by omega) (by omega)).mono ?_; rintro e w' ⟨rfl, rfl⟩)
  go_ret
  exact ⟨rfl, rfl⟩
set_option maxRecDepth 100000 in
theorem size_no (B : Nat) (f : Int) (w : World) (hf : f < 0 ∨ 16 ≤ f) :
    Calls Tryd.prog 31 #[.pointer (some ⟨B, 0, none⟩), .int .i64 f] w fun e w' => e = .returned (.int .i64 0) ∧ w' = w := by
  go_enter Tryd.func31, Tryd.ntmps31
  go_wp2_with (go_at_call 60; refine (isFile_no f _ hf).mono ?_; rintro e w' ⟨rfl, rfl⟩)
  go_ret
  exact ⟨rfl, rfl⟩

theorem Blk.setDown {C : Array Value} {M : Nat} {pv kv : Value} {s : RS} (h : Blk C M pv kv s) (b : Bool) : Blk (C.setIfInBounds 37 (.bool b)) M pv kv { s with down := b } := by
  have hs := h.size
  refine ⟨by simpa using hs, ?_, fun f hf => ?_, fun f hf => ?_, ?_, ?_, ?_, ?_, ?_⟩ <;> rw [setIf_get]
  · rw [if_neg (by omega)]; exact h.files
  · rw [if_neg (by omega)]; exact h.sz f hf
  · rw [if_neg (by omega)]; exact h.dz f hf
  · rw [if_neg (by omega)]; exact h.pend
  · rw [if_neg (by omega)]; exact h.lost
  · rw [if_neg (by omega)]; exact h.calls
  · rw [if_neg (by omega)]; exact h.keep
  · rw [if_pos (by omega)]
theorem Blk.setLost {C : Array Value} {M : Nat} {pv kv : Value} {s : RS} (h : Blk C M pv kv s) (n : Nat) : Blk (C.setIfInBounds 34 (.int .i64 n)) M pv kv { s with lost := n } := by
  have hs := h.size
  refine ⟨by simpa using hs, ?_, fun f hf => ?_, fun f hf => ?_, ?_, ?_, ?_, ?_, ?_⟩ <;> rw [setIf_get]
  · rw [if_neg (by omega)]; exact h.files
  · rw [if_neg (by omega)]; exact h.sz f hf
  · rw [if_neg (by omega)]; exact h.dz f hf
  · rw [if_neg (by omega)]; exact h.pend
  · rw [if_pos (by omega)]
  · rw [if_neg (by omega)]; exact h.calls
  · rw [if_neg (by omega)]; exact h.keep
  · rw [if_neg (by omega)]; exact h.down
theorem Blk.setCalls {C : Array Value} {M : Nat} {pv kv : Value} {s : RS} (h : Blk C M pv kv s) (n : Nat) : Blk (C.setIfInBounds 35 (.int .i64 n)) M pv kv { s with calls := n } := by
  have hs := h.size
  refine ⟨by simpa using hs, ?_, fun f hf => ?_, fun f hf => ?_, ?_, ?_, ?_, ?_, ?_⟩ <;> rw [setIf_get]
  · rw [if_neg (by omega)]; exact h.files
  · rw [if_neg (by omega)]; exact h.sz f hf
  · rw [if_neg (by omega)]; exact h.dz f hf
  · rw [if_neg (by omega)]; exact h.pend
  · rw [if_neg (by omega)]; exact h.lost
  · rw [if_pos (by omega)]
  · rw [if_neg (by omega)]; exact h.keep
  · rw [if_neg (by omega)]; exact h.down
theorem Blk.setSz {C : Array Value} {M : Nat} {pv kv : Value} {s : RS} (h : Blk C M pv kv s) (g n : Nat) (hg : g < 16) : Blk (C.setIfInBounds (1 + g) (.int .i64 n)) M pv kv { s with sz := fun f => if f = g then n else s.sz f } := by
  have hs := h.size
  refine ⟨by simpa using hs, ?_, fun f hf => ?_, fun f hf => ?_, ?_, ?_, ?_, ?_, ?_⟩ <;> rw [setIf_get]
  · rw [if_neg (by omega)]; exact h.files
  · by_cases c : f = g
    · subst c; rw [if_pos (by omega)]; simp
    · rw [if_neg (by omega)]; simp only [if_neg c]; exact h.sz f hf
  · rw [if_neg (by omega)]; exact h.dz f hf
  · rw [if_neg (by omega)]; exact h.pend
  · rw [if_neg (by omega)]; exact h.lost
  · rw [if_neg (by omega)]; exact h.calls
  · rw [if_neg (by omega)]; exact h.keep
  · rw [if_neg (by omega)]; exact h.down
theorem Blk.setDz {C : Array Value} {M : Nat} {pv kv : Value} {s : RS} (h : Blk C M pv kv s) (g n : Nat) (hg : g < 16) : Blk (C.setIfInBounds (17 + g) (.int .i64 n)) M pv kv { s with dz := fun f => if f = g then n else s.dz f } := by
  have hs := h.size
  refine ⟨by simpa using hs, ?_, fun f hf => ?_, fun f hf => ?_, ?_, ?_, ?_, ?_, ?_⟩ <;> rw [setIf_get]
  · rw [if_neg (by omega)]; exact h.files
  · rw [if_neg (by omega)]; exact h.sz f hf
  · by_cases c : f = g
    · subst c; rw [if_pos (by omega)]; simp
    · rw [if_neg (by omega)]; simp only [if_neg c]; exact h.dz f hf
  · rw [if_neg (by omega)]; exact h.pend
  · rw [if_neg (by omega)]; exact h.lost
  · rw [if_neg (by omega)]; exact h.calls
  · rw [if_neg (by omega)]; exact h.keep
  · rw [if_neg (by omega)]; exact h.down
/-- The pending list's slice. -/
theorem Blk.setPend {C : Array Value} {M : Nat} {pv kv : Value} {s : RS} (h : Blk C M pv kv s) (pv' : Value) (q : List (Nat × Nat)) : Blk (C.setIfInBounds 33 pv') M pv' kv { s with q := q } := by
  have hs := h.size
  refine ⟨by simpa using hs, ?_, fun f hf => ?_, fun f hf => ?_, ?_, ?_, ?_, ?_, ?_⟩ <;> rw [setIf_get]
  · rw [if_neg (by omega)]; exact h.files
  · rw [if_neg (by omega)]; exact h.sz f hf
  · rw [if_neg (by omega)]; exact h.dz f hf
  · rw [if_pos (by omega)]
  · rw [if_neg (by omega)]; exact h.lost
  · rw [if_neg (by omega)]; exact h.calls
  · rw [if_neg (by omega)]; exact h.keep
  · rw [if_neg (by omega)]; exact h.down
theorem Blk.setKeep {C : Array Value} {M : Nat} {pv kv : Value} {s : RS} (h : Blk C M pv kv s) (kv' : Value) (k : List Int) : Blk (C.setIfInBounds 36 kv') M pv kv' { s with keep := k } := by
  have hs := h.size
  refine ⟨by simpa using hs, ?_, fun f hf => ?_, fun f hf => ?_, ?_, ?_, ?_, ?_, ?_⟩ <;> rw [setIf_get]
  · rw [if_neg (by omega)]; exact h.files
  · rw [if_neg (by omega)]; exact h.sz f hf
  · rw [if_neg (by omega)]; exact h.dz f hf
  · rw [if_neg (by omega)]; exact h.pend
  · rw [if_neg (by omega)]; exact h.lost
  · rw [if_neg (by omega)]; exact h.calls
  · rw [if_pos (by omega)]
  · rw [if_neg (by omega)]; exact h.down
/-- Other parts of the state don't count. -/
theorem Blk.congr {C : Array Value} {M : Nat} {pv kv : Value} {s s' : RS} (h : Blk C M pv kv s) (h1 : ∀ f, f < 16 → s'.sz f = s.sz f) (h2 : ∀ f, f < 16 → s'.dz f = s.dz f) (h3 : s'.lost = s.lost) (h4 : s'.calls = s.calls) (h5 : s'.down = s.down) : Blk C M pv kv s' :=
  ⟨h.size, h.files, fun f hf => by rw [h1 f hf]; exact h.sz f hf, fun f hf => by rw [h2 f hf]; exact h.dz f hf, h.pend, by rw [h3]; exact h.lost, by rw [h4]; exact h.calls, h.keep, by rw [h5]; exact h.down⟩

set_option maxRecDepth 100000 in
theorem start_any (O : Nat → Prop) (B : Nat) (s : RS) (w : World) (h : Dk w O B s) :
    Calls Tryd.prog 26 #[.pointer (some ⟨B, 0, none⟩)] w fun e w' => e = .returned (.tuple #[]) ∧ DkP O w w' B { s with down := false } := by
  obtain ⟨M, C, pv, kv, hd⟩ := h
  have c1 := cellOf hd.heap hd.blk.down
  have f1 := frozenOf hd.heap 37
  have HD := Lib.hid hd
  clear hd
  go_enter Tryd.func26, Tryd.ntmps26
  go_wp2
  go_end0
  exact ⟨rfl, O, ⟨M, _, pv, kv, HD.out.setB 37 _ (HD.out.blk.setDown false) (fun _ _ _ => rfl) rfl rfl⟩, Gr.self, HD.out.own_setB 37 _⟩

set_option maxRecDepth 100000 in
theorem lose_any (O : Nat → Prop) (B : Nat) (n : Int) (s : RS) (w : World) (h : Dk w O B s) :
    Calls Tryd.prog 20 #[.pointer (some ⟨B, 0, none⟩), .int .i64 n] w fun e w' => e = .returned (.tuple #[]) ∧ DkP O w w' B { s with lost := n.toNat } := by
  obtain ⟨M, C, pv, kv, hd⟩ := h
  have c1 := cellOf hd.heap hd.blk.lost
  have f1 := frozenOf hd.heap 34
  have HD := Lib.hid hd
  clear hd
  rcases Int.lt_or_le 0 n with h | h
  · obtain ⟨k, rfl⟩ : ∃ k : Nat, n = k := ⟨n.toNat, by omega⟩
    go_enter Tryd.func20, Tryd.ntmps20
    go_wp2
    go_end0
    exact ⟨rfl, O, ⟨M, _, pv, kv, HD.out.setB 34 _ (HD.out.blk.setLost k) (fun _ _ _ => rfl) rfl rfl⟩, Gr.self, HD.out.own_setB 34 _⟩
  · have e : n.toNat = 0 := by omega
    rw [e]
    clear e
    go_enter Tryd.func20, Tryd.ntmps20
    go_wp2
    go_end0
    exact ⟨rfl, O, ⟨M, _, pv, kv, HD.out.setB 34 _ (HD.out.blk.setLost 0) (fun _ _ _ => rfl) rfl rfl⟩, Gr.self, HD.out.own_setB 34 _⟩
end Go.Proofs.YtjcajgcfkidbkaaDoor
