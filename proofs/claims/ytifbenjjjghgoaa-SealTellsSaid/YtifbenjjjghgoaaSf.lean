/-
  The steps beside other things (Has.sign ..); the law's Few, Same, small.
-/
import Derived.Test.YtifbenjjjghgoaaSp
namespace Go.Proofs.Ytifbenjjjghgoaa
open Go.RowKit Go.MapKept Go.Maps Go.WideMaps

/-! ### Steps beside other things -/
theorem Has.sign {W w : World} {B : Nat} {q : List Sd} {U : Thing} (h : Has W w ((RingT B q).sep U)) (k : Int) (t : Txt) (ht : t.length ≤ maxLen) (hq : q.length ≤ 1000000) :
    Calls Try.prog 11 #[.pointer (some ⟨B, 0, none⟩), .int .i64 k, .string (S t)] w fun r w' => r = .returned (sgV (signR q (k, t))) ∧ Has W w' ((RingT B (signL q (k, t))).sep U) := by
  obtain ⟨O, hT, _, hb⟩ := h.open
  refine (sign_any O B q k t w hT ht hq).mono ?_
  rintro r w' ⟨rfl, hs⟩
  exact ⟨rfl, hb w' _ hs⟩
theorem Has.valid {W w : World} {B : Nat} {q : List Sd} {U : Thing} (h : Has W w ((RingT B q).sep U)) (s : Sg) (hq : q.length ≤ 1000000) :
    Calls Try.prog 13 #[.pointer (some ⟨B, 0, none⟩), sgV s] w fun r w' => r = .returned (.bool (holds q s)) ∧ Fr w w' := by
  obtain ⟨O, hT, _, _⟩ := h.open
  exact valid_any O B q s w hT hq
theorem Has.all {W w : World} {B : Nat} {q : List Sd} {U : Thing} (h : Has W w ((RingT B q).sep U)) (hq : q.length ≤ 1000000) :
    Calls Try.prog 18 #[.pointer (some ⟨B, 0, none⟩)] w (CloneP q w) := by
  obtain ⟨O, hT, _, _⟩ := h.open
  exact all_any O B q w hT hq
theorem Has.copy {W w : World} {B : Nat} {q : List Sd} {U : Thing} (h : Has W w ((RingT B q).sep U)) (hq : q.length ≤ 1000000) :
    Calls Try.prog 20 #[.pointer (some ⟨B, 0, none⟩)] w fun r w' => ∃ B', r = .returned (.pointer (some ⟨B', 0, none⟩)) ∧ Has W w' ((RingT B' q).sep ((RingT B q).sep U)) := by
  obtain ⟨O, hT, _, _⟩ := h.open
  refine (copy_any O B q w hT hq).mono ?_
  rintro r w' ⟨B', rfl, hs⟩
  exact ⟨B', rfl, h.new hs⟩
theorem Has.ring {W w : World} {U : Thing} (h : Has W w U) : Calls Try.prog 9 #[] w fun r w' => ∃ B, r = .returned (.pointer (some ⟨B, 0, none⟩)) ∧ Has W w' ((RingT B []).sep U) := by
  refine (new_any w).mono ?_
  rintro r w' ⟨B, rfl, hs⟩
  exact ⟨B, rfl, h.new hs⟩
theorem Has.box {W w : World} {U : Thing} (h : Has W w U) (t : TypeId) (C : Array Value) : Has W (w.alloc (.cells C t)) ((BoxT t w.heap.size C).sep U) :=
  h.new ⟨fun k => k = w.heap.size, ⟨heap_alloc_new w _, fun _ => Iff.rfl⟩, fun k hk => .inr (by simp [hk]), .of_fr (Fr.alloc w _)⟩
theorem Has.boxed {W w : World} {t : TypeId} {B : Nat} {C : Array Value} {U : Thing} (h : Has W w ((BoxT t B C).sep U)) : w.heap[B]? = some (.cells C t (0, 0)) := by
  obtain ⟨O, hT, _, _⟩ := h.open
  exact hT.1
theorem Has.row {W w : World} {e size n : Nat} {v : Value} {xs : List Value} {U : Thing} (h : Has W w ((RowT e size v n xs).sep U)) : w.ownsRow 0 e size v n xs := by
  obtain ⟨O, hT, _, _⟩ := h.open
  exact hT.1

/-! ### Few -/
def Few (l : List Sd) : Prop := l.length ≤ 40 ∧ ∀ e ∈ l, e.2.length ≤ 500
instance (l : List Sd) : Decidable (Few l) := by unfold Few; exact inferInstance
theorem few_at (b o c : Nat) (l : List Sd) (w : World) (hc : At w b o l) (hn : l.length ≤ 9223372036854775807) (hs : ∀ e ∈ l, e.2.length ≤ maxLen) :
    Calls Try.prog 8 #[.slice (some ⟨b, o, none⟩) l.length c, .int .i64 40] w fun e w' => e = .returned (.bool (decide (Few l))) ∧ w' = w := by
  have HC := Lib.hid hc
  have HS := Lib.hid hs
  clear hc hs
  go_enter Try.func8, Try.ntmps8
  go_wp2_with fail
  go_loopw [5] (fun i wr => ∃ k : Nat, k ≤ l.length ∧ k ≤ 41 ∧ i = .int .i64 k ∧ wr = w ∧ Hid (∀ (j : Nat) (h : j < k) (h' : j < l.length), l[j].2.length ≤ 500)) (fun i _ => l.length - (intOf i).toNat)
  case atStart => exact ⟨0, Nat.zero_le _, by omega, rfl, rfl, Lib.hid (fun j h => by omega)⟩
  case round =>
    obtain ⟨k, hk, hk2, rfl, rfl, hA⟩ := hrel
    by_cases hlt : k < l.length
    · by_cases h41 : k < 41
      · have c1 := (HC.out k hlt).2
        have hsl := HS.out _ (List.getElem_mem hlt)
        unfold maxLen at hsl
        by_cases hb : l[k].2.length ≤ 500
        · have HA := Lib.hid (show ∀ (j : Nat) (h : j < k + 1) (h' : j < l.length), l[j].2.length ≤ 500 from fun j h h' => by
            rcases Nat.lt_or_ge j k with hj | hj
            · exact hA.out j hj h'
            · obtain rfl : j = k := by omega
              exact hb)
          clear hA
          generalize l[k].2 = x at *
          go_wp2_with fail
          go_roundw
          case rel => exact ⟨k + 1, by omega, by omega, by go_num, trivial, HA⟩
          case measure => simp [intOf]; omega
        · have HD := Lib.hid (show decide (Few l) = false from decide_eq_false (fun h => hb (h.2 _ (List.getElem_mem hlt))))
          clear hA
          generalize l[k].2 = x at *
          go_wp2_with fail
          go_ret
          exact ⟨by rw [HD.out]; rfl, rfl⟩
      · have HD := Lib.hid (show decide (Few l) = false from decide_eq_false (fun h => by have := h.1; omega))
        clear hA
        go_wp2_with fail
        go_ret
        refine ⟨?_, rfl⟩
        rw [HD.out]
        have : ¬ ((l.length : Int) ≤ 40) := by omega
        simp [this]
    · have HD := Lib.hid (show decide (Few l) = decide ((l.length : Int) ≤ 40) by
        rw [Bool.eq_iff_iff]
        simp only [decide_eq_true_eq]
        constructor
        · intro h; have := h.1; omega
        · intro h
          refine ⟨by omega, fun s hs => ?_⟩
          obtain ⟨j, hj, rfl⟩ := List.getElem_of_mem hs
          exact hA.out j (by omega) hj)
      clear hA
      go_wp2_with fail
      go_ret
      exact ⟨by rw [HD.out]; rfl, rfl⟩
theorem few_nil (a : Option Addr) (c : Nat) (w : World) :
    Calls Try.prog 8 #[.slice a 0 c, .int .i64 40] w fun e w' => e = .returned (.bool true) ∧ w' = w := by
  go_enter Try.func8, Try.ntmps8
  go_wp2_with fail
  go_loopw [5] (fun i wr => i = .int .i64 0 ∧ wr = w) (fun _ _ => 0)
  case atStart => exact ⟨rfl, rfl⟩
  case round =>
    obtain ⟨rfl, rfl⟩ := hrel
    go_wp2_with fail
    go_ret
    exact ⟨rfl, rfl⟩
/-- What is known of the arguments. -/
def Arg (l : List Sd) : Prop := l.length ≤ 9223372036854775807 ∧ (∀ e ∈ l, e.2.length ≤ maxLen) ∧ ∀ e ∈ l, -9223372036854775808 ≤ e.1 ∧ e.1 ≤ 9223372036854775807
theorem few_any {v : Value} {l : List Sd} (w : World) (h : Sl w v l) (ha : Arg l) :
    Calls Try.prog 8 #[v, .int .i64 40] w fun e w' => e = .returned (.bool (decide (Few l))) ∧ w' = w := by
  rcases h with ⟨rfl, a, c, rfl⟩ | ⟨b, o, c, rfl, hc⟩
  · exact few_nil a c w
  · exact few_at b o c l w hc ha.1 ha.2.1
theorem few_yes {v : Value} {l : List Sd} (w : World) (h : Sl w v l) (ha : Arg l) (hf : Few l) :
    Calls Try.prog 8 #[v, .int .i64 40] w fun e w' => e = .returned (.bool true) ∧ w' = w :=
  (few_any w h ha).mono fun _ _ ⟨he, hw⟩ => ⟨by rw [he, decide_eq_true hf], hw⟩
theorem few_no {v : Value} {l : List Sd} (w : World) (h : Sl w v l) (ha : Arg l) (hf : ¬ Few l) :
    Calls Try.prog 8 #[v, .int .i64 40] w fun e w' => e = .returned (.bool false) ∧ w' = w :=
  (few_any w h ha).mono fun _ _ ⟨he, hw⟩ => ⟨by rw [he, decide_eq_false hf], hw⟩

/-! ### Same, of equal lists -/
set_option maxHeartbeats 400000 in
theorem same_at (b o c b' o' c' : Nat) (xs : List Sd) (w : World) (h1 : At w b o xs) (h2 : At w b' o' xs) (hn : xs.length ≤ 1000000) :
    Calls Try.prog 17 #[.slice (some ⟨b, o, none⟩) xs.length c, .slice (some ⟨b', o', none⟩) xs.length c'] w fun e w' => e = .returned (.bool true) ∧ ∃ m, w' = w.drewN m := by
  have H1 := Lib.hid h1
  have H2 := Lib.hid h2
  clear h1 h2
  go_enter Try.func17, Try.ntmps17
  go_wp2_with fail
  go_loopw [5] (fun i wr => ∃ k : Nat, k ≤ xs.length ∧ i = .int .i64 k ∧ Hid (∃ m, wr = w.drewN m)) (fun i _ => xs.length - (intOf i).toNat)
  case atStart => exact ⟨0, Nat.zero_le _, rfl, Lib.hid ⟨0, rfl⟩⟩
  case round =>
    obtain ⟨k, hk, rfl, hwr⟩ := hrel
    have hF : Fr w wr := by obtain ⟨m, rfl⟩ := hwr.out; exact Fr.drewN w m
    by_cases hlt : k < xs.length
    · have c1 := hF.cell (H1.out k hlt).1
      have c2 := hF.cell (H1.out k hlt).2
      have d1 := hF.cell (H2.out k hlt).1
      have d2 := hF.cell (H2.out k hlt).2
      generalize xs[k] = x at *
      obtain ⟨y, t⟩ := x
      simp only at c1 c2 d1 d2
      go_wp2_with fail
      go_quiet (fail)
      have hq : ∃ m, wr.drewN nq = w.drewN m := by obtain ⟨m, rfl⟩ := hwr.out; exact ⟨m + nq, World.drewN_drewN ..⟩
      have HQ := Lib.hid hq
      generalize wr.drewN nq = w2 at *
      clear c1 c2 d1 d2 hwr hF hq
      go_wp2_with fail
      go_roundw
      case rel => exact ⟨k + 1, by omega, by go_num, HQ⟩
      case measure => simp [intOf]; omega
    · go_wp2_with fail
      go_ret
      exact ⟨rfl, hwr.out⟩
theorem same_nil (a a' : Option Addr) (c c' : Nat) (w : World) :
    Calls Try.prog 17 #[.slice a 0 c, .slice a' 0 c'] w fun e w' => e = .returned (.bool true) ∧ ∃ m, w' = w.drewN m := by
  go_enter Try.func17, Try.ntmps17
  go_wp2_with fail
  go_loopw [5] (fun i wr => i = .int .i64 0 ∧ wr = w) (fun _ _ => 0)
  case atStart => exact ⟨rfl, rfl⟩
  case round =>
    obtain ⟨rfl, rfl⟩ := hrel
    go_wp2_with fail
    go_ret
    exact ⟨rfl, 0, rfl⟩
theorem same_q {u v : Value} {xs : List Sd} (w : World) (h1 : Sl w u xs) (h2 : Sl w v xs) (hn : xs.length ≤ 1000000) :
    Calls Try.prog 17 #[u, v] w fun e w' => e = .returned (.bool true) ∧ ∃ m, w' = w.drewN m := by
  rcases h1 with ⟨rfl, a, c, rfl⟩ | ⟨b, o, c, rfl, hc⟩
  · obtain ⟨a', c', rfl⟩ := h2.len
    exact same_nil a a' c c' w
  · rcases h2 with ⟨rfl, a', c', rfl⟩ | ⟨b', o', c', rfl, hc'⟩
    · exact same_nil _ a' c c' w
    · exact same_at b o c b' o' c' xs w hc hc' hn
theorem same_any {u v : Value} {xs : List Sd} (w : World) (h1 : Sl w u xs) (h2 : Sl w v xs) (hn : xs.length ≤ 1000000) :
    Calls Try.prog 17 #[u, v] w fun e w' => e = .returned (.bool true) ∧ Fr w w' :=
  (same_q w h1 h2 hn).mono fun _ _ ⟨he, m, hm⟩ => ⟨he, hm ▸ Fr.drewN w m⟩
end Go.Proofs.Ytifbenjjjghgoaa
