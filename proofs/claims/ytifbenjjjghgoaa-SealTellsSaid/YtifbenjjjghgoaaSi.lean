/-
  The reference's steps beside other things.
-/
import Derived.Test.YtifbenjjjghgoaaSh
namespace Go.Proofs.Ytifbenjjjghgoaa
open Go.RowKit Go.MapKept Go.Maps Go.WideMaps

theorem ropen_nil (a : Option Addr) (c : Nat) (w : World) : Calls Try.prog 16 #[.slice a 0 c] w (ROpenP [] w) := by
  go_enter Try.func16, Try.ntmps16
  go_wp2_with (go_at_call 10; refine (rnew_any _).mono ?_; rintro e w1 ⟨B, rfl, hs⟩)
  have HS := Lib.hid hs
  clear hs
  go_loopw [5, 6] (fun bd i wr => i = .int .i64 0 ∧ bd = .int .i64 0 ∧ wr = w1) (fun _ _ _ => 0)
  case atStart => exact ⟨rfl, rfl, rfl⟩
  case round =>
    obtain ⟨rfl, rfl, rfl⟩ := hrel
    go_wp2_with fail
    go_ret2
    exact .inl ⟨B, fun e he => by simp at he, List.nodup_nil, rfl, HS.out⟩
theorem ropen_any (v : Value) (l : List Sd) (w : World) (h : Sl w v l) (hn : l.length ≤ 1000000) : Calls Try.prog 16 #[v] w (ROpenP l w) := by
  rcases h with ⟨rfl, a, c, rfl⟩ | ⟨b, o, c, rfl, hc⟩
  · exact ropen_nil a c w
  · exact ropen_at b o c l w hc hn

theorem Has.rsign {W w : World} {B : Nat} {q : List Sd} {U : Thing} (h : Has W w ((RefT B q).sep U)) (k : Int) (t : Txt) (hq : q.length ≤ 1000000) :
    Calls Try.prog 12 #[.pointer (some ⟨B, 0, none⟩), .int .i64 k, .string (S t)] w fun r w' => r = .returned (sgV (signR q (k, t))) ∧ Has W w' ((RefT B (signL q (k, t))).sep U) := by
  obtain ⟨O, hT, _, hb⟩ := h.open
  refine (rsign_any O B q k t w hT hq).mono ?_
  rintro r w' ⟨rfl, hs⟩
  exact ⟨rfl, hb w' _ hs⟩
theorem Has.rvalid {W w : World} {B : Nat} {q : List Sd} {U : Thing} (h : Has W w ((RefT B q).sep U)) (s : Sg) (hq : q.length ≤ 1000000) :
    Calls Try.prog 14 #[.pointer (some ⟨B, 0, none⟩), sgV s] w fun r w' => r = .returned (.bool (holds q s)) ∧ Fr w w' := by
  obtain ⟨O, hT, _, _⟩ := h.open
  exact rvalid_any O B q s w hT hq
theorem Has.rall {W w : World} {B : Nat} {q : List Sd} {U : Thing} (h : Has W w ((RefT B q).sep U)) (hq : q.length ≤ 1000000) :
    Calls Try.prog 19 #[.pointer (some ⟨B, 0, none⟩)] w (CloneP q w) := by
  obtain ⟨O, hT, _, _⟩ := h.open
  exact rall_any O B q w hT hq
theorem Has.rring {W w : World} {U : Thing} (h : Has W w U) : Calls Try.prog 10 #[] w fun r w' => ∃ B, r = .returned (.pointer (some ⟨B, 0, none⟩)) ∧ Has W w' ((RefT B []).sep U) := by
  refine (rnew_any w).mono ?_
  rintro r w' ⟨B, rfl, hs⟩
  exact ⟨B, rfl, h.new hs⟩

/-! ### Open, beside other things -/
theorem topen_good {W w : World} {U : Thing} (h : Has W w U) {v : Value} {l : List Sd} (hl : Sl w v l) (hn : l.length ≤ 1000000) (ht : ∀ e ∈ l, e.2.length ≤ maxLen) (hk : AllKeys l) (hd : l.Nodup) :
    Calls Try.prog 15 #[v] w fun r w' => ∃ B, r = .returned (.tuple #[.pointer (some ⟨B, 0, none⟩), .int .i64 0]) ∧ Has W w' ((RingT B l).sep U) := by
  refine (open_any v l w hl hn ht).mono ?_
  rintro r w' (⟨B, _, _, rfl, hs⟩ | ⟨_, h2, _⟩ | ⟨h2, _⟩)
  · exact ⟨B, rfl, h.new hs⟩
  · exact absurd hd h2
  · exact absurd hk h2
theorem ropen_good {W w : World} {U : Thing} (h : Has W w U) {v : Value} {l : List Sd} (hl : Sl w v l) (hn : l.length ≤ 1000000) (hk : AllKeys l) (hd : l.Nodup) :
    Calls Try.prog 16 #[v] w fun r w' => ∃ B, r = .returned (.tuple #[.pointer (some ⟨B, 0, none⟩), .int .i64 0]) ∧ Has W w' ((RefT B l).sep U) := by
  refine (ropen_any v l w hl hn).mono ?_
  rintro r w' (⟨B, _, _, rfl, hs⟩ | ⟨_, h2, _⟩ | ⟨h2, _⟩)
  · exact ⟨B, rfl, h.new hs⟩
  · exact absurd hd h2
  · exact absurd hk h2
/-- The number that Open returns beside nil. -/
def badE (l : List Sd) : Int := if AllKeys l then 5 else 1
theorem topen_bad {w : World} {v : Value} {l : List Sd} (hl : Sl w v l) (hn : l.length ≤ 1000000) (ht : ∀ e ∈ l, e.2.length ≤ maxLen) (hb : ¬ (AllKeys l ∧ l.Nodup)) :
    Calls Try.prog 15 #[v] w fun r w' => r = .returned (.tuple #[.pointer none, .int .i64 (badE l)]) ∧ Fr w w' := by
  refine (open_any v l w hl hn ht).mono ?_
  unfold badE
  rintro r w' (⟨B, h1, h2, _⟩ | ⟨h1, _, h3, h4⟩ | ⟨h1, h3, h4⟩)
  · exact absurd ⟨h1, h2⟩ hb
  · rw [if_pos h1]; exact ⟨h3, h4⟩
  · rw [if_neg h1]; exact ⟨h3, h4⟩
theorem ropen_bad {w : World} {v : Value} {l : List Sd} (hl : Sl w v l) (hn : l.length ≤ 1000000) (hb : ¬ (AllKeys l ∧ l.Nodup)) :
    Calls Try.prog 16 #[v] w fun r w' => r = .returned (.tuple #[.pointer none, .int .i64 (badE l)]) ∧ Fr w w' := by
  refine (ropen_any v l w hl hn).mono ?_
  unfold badE
  rintro r w' (⟨B, h1, h2, _⟩ | ⟨h1, _, h3, h4⟩ | ⟨h1, h3, h4⟩)
  · exact absurd ⟨h1, h2⟩ hb
  · rw [if_pos h1]; exact ⟨h3, h4⟩
  · rw [if_neg h1]; exact ⟨h3, h4⟩
end Go.Proofs.Ytifbenjjjghgoaa
