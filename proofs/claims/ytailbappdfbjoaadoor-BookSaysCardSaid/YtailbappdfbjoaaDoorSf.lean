/-
  The steps beside other things (Has.sign ..); the law's Few, Same, small.
-/
import Derived.Test.YtailbappdfbjoaaDoorSc
namespace Go.Proofs.YtailbappdfbjoaaDoor
open Go.RowKit Go.MapKept Go.Maps Go.WideMaps

/-! ### Steps beside other things -/
theorem Has.sign {W w : World} {B : Nat} {q : List Sd} {U : Thing} (h : Has W w ((RingT B q).sep U)) (k : Int) (t : Txt) (ht : t.length ≤ maxLen) (hq : q.length ≤ 1000000) :
    Calls Tryd.prog 34 #[.pointer (some ⟨B, 0, none⟩), .int .i64 k, .string (S t)] w fun r w' => r = .returned (sgV (signR q (k, t))) ∧ Has W w' ((RingT B (signL q (k, t))).sep U) := by
  obtain ⟨O, hT, _, hb⟩ := h.open
  refine (sign_any O B q k t w hT ht hq).mono ?_
  rintro r w' ⟨rfl, hs⟩
  exact ⟨rfl, hb w' _ hs⟩
set_option maxRecDepth 100000 in
theorem Has.valid {W w : World} {B : Nat} {q : List Sd} {U : Thing} (h : Has W w ((RingT B q).sep U)) (s : Sg) (hq : q.length ≤ 1000000) :
    Calls Tryd.prog 21 #[.pointer (some ⟨B, 0, none⟩), sgV s] w fun r w' => r = .returned (.bool (holds q s)) ∧ Fr w w' := by
  obtain ⟨O, hT, _, _⟩ := h.open
  exact valid_any O B q s w hT hq
set_option maxRecDepth 100000 in
theorem Has.all {W w : World} {B : Nat} {q : List Sd} {U : Thing} (h : Has W w ((RingT B q).sep U)) (hq : q.length ≤ 1000000) :
    Calls Tryd.prog 19 #[.pointer (some ⟨B, 0, none⟩)] w (CloneP q w) := by
  obtain ⟨O, hT, _, _⟩ := h.open
  exact all_any O B q w hT hq
set_option maxRecDepth 100000 in
theorem Has.copy {W w : World} {B : Nat} {q : List Sd} {U : Thing} (h : Has W w ((RingT B q).sep U)) (hq : q.length ≤ 1000000) :
    Calls Tryd.prog 29 #[.pointer (some ⟨B, 0, none⟩)] w fun r w' => ∃ B', r = .returned (.pointer (some ⟨B', 0, none⟩)) ∧ Has W w' ((RingT B' q).sep ((RingT B q).sep U)) := by
  obtain ⟨O, hT, _, _⟩ := h.open
  refine (copy_any O B q w hT hq).mono ?_
  rintro r w' ⟨B', rfl, hs⟩
  exact ⟨B', rfl, h.new hs⟩
set_option maxRecDepth 100000 in
theorem Has.ring {W w : World} {U : Thing} (h : Has W w U) : Calls Tryd.prog 9 #[] w fun r w' => ∃ B, r = .returned (.pointer (some ⟨B, 0, none⟩)) ∧ Has W w' ((RingT B []).sep U) := by
  refine (new_any w).mono ?_
  rintro r w' ⟨B, rfl, hs⟩
  exact ⟨B, rfl, h.new hs⟩
/-! ### Same, of equal lists -/
set_option maxHeartbeats 400000 in
set_option maxRecDepth 100000 in
theorem same_at (b o c b' o' c' : Nat) (xs : List Sd) (w : World) (h1 : At w b o xs) (h2 : At w b' o' xs) (hn : xs.length ≤ 1000000) :
    Calls Tryd.prog 18 #[.slice (some ⟨b, o, none⟩) xs.length c, .slice (some ⟨b', o', none⟩) xs.length c'] w fun e w' => e = .returned (.bool true) ∧ ∃ m, w' = w.drewN m := by
  have H1 := Lib.hid h1
  have H2 := Lib.hid h2
  clear h1 h2
  go_enter Tryd.func18, Tryd.ntmps18
  go_wp2_with fail
  go_loopw [5] (fun i wr => ∃ k : Nat, k ≤ xs.length ∧ i = .int .i64 k ∧ Hid (∃ m, wr = w.drewN m)) (fun i _ => xs.length - (intOf i).toNat)
  case atStart => exact ⟨0, Nat.zero_le _, rfl, Lib.hid ⟨0, rfl⟩⟩
  case round =>
    obtain ⟨k, hk, rfl, hwr⟩ := hrel
    have hF : Fr w wr := by obtain ⟨m, rfl⟩ := hwr.out; exact Fr.drewN w m
    by_cases hlt : k < xs.length
    · have c1 := hF.cell (H1.out k hlt).1
      have c2 := hF.cell (H1.out k hlt).2
      have d1 := hF.cell (H2.out k hlt).1
      have d2 := hF.cell (H2.out k hlt).2
      generalize xs[k] = x at *
      obtain ⟨y, t⟩ := x
      simp only at c1 c2 d1 d2
      go_wp2_with fail
      go_quiet (fail)
      have hq : ∃ m, wr.drewN nq = w.drewN m := by obtain ⟨m, rfl⟩ := hwr.out; exact ⟨m + nq, World.drewN_drewN ..⟩
      have HQ := Lib.hid hq
      generalize wr.drewN nq = w2 at *
      clear c1 c2 d1 d2 hwr hF hq
      go_wp2_with fail
      go_roundw
      case rel => exact ⟨k + 1, by omega, by go_num, HQ⟩
      case measure => simp [intOf]; omega
    · go_wp2_with fail
      go_ret
      exact ⟨rfl, hwr.out⟩
set_option maxRecDepth 100000 in
theorem same_nil (a a' : Option Addr) (c c' : Nat) (w : World) :
    Calls Tryd.prog 18 #[.slice a 0 c, .slice a' 0 c'] w fun e w' => e = .returned (.bool true) ∧ ∃ m, w' = w.drewN m := by
  go_enter Tryd.func18, Tryd.ntmps18
  go_wp2_with fail
  go_loopw [5] (fun i wr => i = .int .i64 0 ∧ wr = w) (fun _ _ => 0)
  case atStart => exact ⟨rfl, rfl⟩
  case round =>
    obtain ⟨rfl, rfl⟩ := hrel
    go_wp2_with fail
    go_ret
    exact ⟨rfl, 0, rfl⟩
set_option maxRecDepth 100000 in
theorem same_q {u v : Value} {xs : List Sd} (w : World) (h1 : Sl w u xs) (h2 : Sl w v xs) (hn : xs.length ≤ 1000000) :
    Calls Tryd.prog 18 #[u, v] w fun e w' => e = .returned (.bool true) ∧ ∃ m, w' = w.drewN m := by
  rcases h1 with ⟨rfl, a, c, rfl⟩ | ⟨b, o, c, rfl, hc⟩
  · obtain ⟨a', c', rfl⟩ := h2.len
    exact same_nil a a' c c' w
  · rcases h2 with ⟨rfl, a', c', rfl⟩ | ⟨b', o', c', rfl, hc'⟩
    · exact same_nil _ a' c c' w
    · exact same_at b o c b' o' c' xs w hc hc' hn
set_option maxRecDepth 100000 in
theorem same_any {u v : Value} {xs : List Sd} (w : World) (h1 : Sl w u xs) (h2 : Sl w v xs) (hn : xs.length ≤ 1000000) :
    Calls Tryd.prog 18 #[u, v] w fun e w' => e = .returned (.bool true) ∧ Fr w w' :=
  (same_q w h1 h2 hn).mono fun _ _ ⟨he, m, hm⟩ => ⟨he, hm ▸ Fr.drewN w m⟩
end Go.Proofs.YtailbappdfbjoaaDoor
