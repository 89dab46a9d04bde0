/-
  Open.
-/
import Derived.Test.YtifbenjjjghgoaaSc
namespace Go.Proofs.Ytifbenjjjghgoaa
open Go.RowKit Go.MapKept Go.Maps Go.WideMaps

/-- What Open says of a list. -/
def AllKeys (l : List Sd) : Prop := ∀ e ∈ l, IsKey e.1
instance (l : List Sd) : Decidable (AllKeys l) := by unfold AllKeys; exact inferInstance
def openE (l : List Sd) : Int := if AllKeys l then (if l.Nodup then 0 else 5) else 1
/-- What Open returns. -/
def OpenP (l : List Sd) (w : World) (r : Ending) (w' : World) : Prop :=
  (∃ B, AllKeys l ∧ l.Nodup ∧ r = .returned (.tuple #[.pointer (some ⟨B, 0, none⟩), .int .i64 0]) ∧ (RingT B l).step (fun _ => False) w w') ∨
  (AllKeys l ∧ ¬ l.Nodup ∧ r = .returned (.tuple #[.pointer none, .int .i64 5]) ∧ Fr w w') ∨
  (¬ AllKeys l ∧ r = .returned (.tuple #[.pointer none, .int .i64 1]) ∧ Fr w w')
theorem step_toFr {T : Thing} {w w' : World} (h : T.step (fun _ => False) w w') : Fr w w' :=
  let ⟨_, _, _, ho⟩ := h
  ⟨ho.os, ho.tape, ho.output, ho.size, fun k hk _ => ho.block k hk (fun h => h)⟩

set_option maxHeartbeats 2000000 in
theorem open_at (b o c : Nat) (l : List Sd) (w : World) (h : At w b o l) (hn : l.length ≤ 1000000) (ht : ∀ e ∈ l, e.2.length ≤ maxLen) :
    Calls Try.prog 15 #[.slice (some ⟨b, o, none⟩) l.length c] w (OpenP l w) := by
  have H := Lib.hid h
  have HT := Lib.hid ht
  clear h ht
  go_enter Try.func15, Try.ntmps15
  go_wp2_with (go_at_call 9; refine (new_any _).mono ?_; rintro e w1 ⟨B, rfl, hs⟩)
  have HS := Lib.hid hs
  clear hs
  go_loopw [10] (fun i wr => ∃ k : Nat, k ≤ l.length ∧ i = .int .i64 k ∧ Hid (AllKeys (l.take k)) ∧ Hid ((RingT B (addA [] (l.take k))).step (fun _ => False) w wr)) (fun i _ => l.length - (intOf i).toNat)
  case atStart => exact ⟨0, Nat.zero_le _, rfl, Lib.hid (fun e he => by simp at he), HS⟩
  case round =>
    obtain ⟨k, hk, rfl, hA, hR⟩ := hrel
    by_cases hlt : k < l.length
    · have hc := (H.out.fr (step_toFr hR.out)) k hlt
      have c1 := hc.1
      have c2 := hc.2
      have HAT := Lib.hid (addA_take [] l k hlt)
      have htl := HT.out _ (List.getElem_mem hlt)
      have HMEM := Lib.hid (List.getElem_mem hlt)
      have HTK := Lib.hid (show AllKeys (l.take k) → IsKey l[k].1 → AllKeys (l.take (k + 1)) from fun h1 h2 e he => by
        rw [List.take_succ_eq_append_getElem hlt, List.mem_append, List.mem_singleton] at he
        rcases he with he | rfl
        · exact h1 e he
        · exact h2)
      clear hc
      generalize l[k] = x at *
      obtain ⟨y, t⟩ := x
      simp only at c1 c2 htl
      by_cases hy : IsKey y
      · have h0 := hy.1
        have h1 := hy.2
        obtain ⟨O1, hT1, hG1, hO1⟩ := hR.out
        have HT1 := Lib.hid hT1
        have HB1 := Lib.hid (show (addA [] (l.take k)).length ≤ 1000000 by
          have := (addA_len [] (l.take k)).2
          rw [List.length_take, List.length_nil] at this
          omega)
        have HSTEP := Lib.hid (fun w2 => fun (hs2 : (RingT B (addL (addA [] (l.take k)) (y, t))).step O1 (wr.alloc (.cells #[.int .i64 y, .string (S t)] 33)) w2) => Thing.step_trans hG1 hO1 (Thing.step_left (Fr.alloc wr _) hs2))
        have HK := Lib.hid (show KeyOk (y, t) from ⟨by show -9223372036854775808 ≤ y; omega, by show y ≤ 9223372036854775807; omega, htl⟩)
        clear hT1 hG1 hO1 htl
        go_wp2_with (first
          | (go_at_call 21; refine (isKey_yes y _ h0 h1).mono ?_; rintro e w' ⟨rfl, rfl⟩)
          | (go_at_call 22; refine (mark_any O1 B _ (y, t) _ ((RingT B _).fr HT1.out (Fr.alloc _ _)) HK.out HB1.out).mono ?_; rintro e w2 ⟨rfl, hs2⟩; have HS2 := Lib.hid (HSTEP.out _ hs2); clear hs2))
        go_roundw
        case rel => exact ⟨k + 1, by omega, by go_num, Lib.hid (HTK.out hA.out hy), Lib.hid (by rw [HAT.out]; exact HS2.out)⟩
        case measure => simp [intOf]; omega
      · have hno : y < 0 ∨ 200 ≤ y := by unfold IsKey at hy; omega
        have HBad := Lib.hid (show ¬ AllKeys l from fun h => hy (h _ HMEM.out))
        go_wp2_with (first
          | (go_at_call 21; refine (isKey_no y _ hno).mono ?_; rintro e w' ⟨rfl, rfl⟩))
        go_ret2
        exact .inr (.inr ⟨HBad.out, rfl, (step_toFr hR.out).trans (Fr.alloc _ _)⟩)
    · obtain rfl : k = l.length := by omega
      rw [List.take_length] at hA hR
      obtain ⟨O1, ⟨M, ev, hr⟩, _⟩ := id hR.out
      obtain ⟨a, cc, hev⟩ := row_form hr.row
      subst hev
      have c1 := cellOf hr.heap (i := 0) rfl
      have hle := (addA_len [] l).2
      rw [List.length_nil] at hle
      have hful := addA_full (a := ([] : List Sd)) (l := l) List.nodup_nil
      rw [List.nil_append, List.length_nil] at hful
      have HA := Lib.hid hA
      clear hr hlt
      by_cases hnd : l.Nodup
      · have hlen : (addA [] l).length = l.length := by have := hful.2 hnd; omega
        have HQ := Lib.hid (show addA [] l = l by have := addA_all (a := ([] : List Sd)) (l := l) (by simpa using hnd); simpa using this)
        have HN := Lib.hid hnd
        rw [hlen] at c1
        clear hful hnd hlen hle
        go_wp2_with fail
        go_ret2
        exact .inl ⟨B, hA.out, HN.out, rfl, by rw [← HQ.out]; rw [HQ.out]; have := hR.out; rw [HQ.out] at this; exact this⟩
      · have hlen : (addA [] l).length < l.length := by
          have : (addA [] l).length ≠ 0 + l.length := fun h => hnd (hful.1 h)
          omega
        have HN := Lib.hid hnd
        have HFR := Lib.hid (step_toFr hR.out)
        clear hful hnd hle hR
        generalize (addA [] l).length = n at *
        go_wp2_with fail
        go_ret2
        exact .inr (.inl ⟨hA.out, HN.out, rfl, HFR.out⟩)
theorem open_nil (a : Option Addr) (c : Nat) (w : World) : Calls Try.prog 15 #[.slice a 0 c] w (OpenP [] w) := by
  go_enter Try.func15, Try.ntmps15
  go_wp2_with (go_at_call 9; refine (new_any _).mono ?_; rintro e w1 ⟨B, rfl, hs⟩)
  have HS := Lib.hid hs
  clear hs
  go_loopw [10] (fun i wr => i = .int .i64 0 ∧ wr = w1) (fun _ _ => 0)
  case atStart => exact ⟨rfl, rfl⟩
  case round =>
    obtain ⟨rfl, rfl⟩ := hrel
    obtain ⟨O1, ⟨M, ev, hr⟩, _⟩ := id HS.out
    obtain ⟨aa, cc, hev⟩ := row_form hr.row
    subst hev
    have c1 := cellOf hr.heap (i := 0) rfl
    clear hr
    go_wp2_with fail
    go_ret2
    exact .inl ⟨B, fun e he => by simp at he, List.nodup_nil, rfl, HS.out⟩
theorem open_any (v : Value) (l : List Sd) (w : World) (h : Sl w v l) (hn : l.length ≤ 1000000) (ht : ∀ e ∈ l, e.2.length ≤ maxLen) : Calls Try.prog 15 #[v] w (OpenP l w) := by
  rcases h with ⟨rfl, a, c, rfl⟩ | ⟨b, o, c, rfl, hc⟩
  · exact open_nil a c w
  · exact open_at b o c l w hc hn ht
end Go.Proofs.Ytifbenjjjghgoaa
