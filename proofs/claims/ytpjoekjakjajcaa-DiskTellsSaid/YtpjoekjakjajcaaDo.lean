/-
  The law's helper: do, an act performed.
-/
import Derived.Test.YtpjoekjakjajcaaCopy
namespace Go.Proofs.Ytpjoekjakjajcaa
open Go.RowKit

/-- An act, and the list that its slice reads as. -/
structure AC where
  k : Int
  f : Int
  n : Int
  str : ByteArray
  v : Value
  ks : List Int
def AC.l (a : AC) : List UInt8 := a.str.data.toList
def kd (k : Int) : Int := bits .and .i64 k 7
def nd (n : Int) : Int := bits .and .i64 n 3
def doS (s : RS) (a : AC) : RS := if kd a.k = 2 then syncS s a.f else if kd a.k = 3 then truncS s a.f a.n else if kd a.k = 4 then { s with lost := (nd a.n).toNat } else
  if kd a.k = 5 then armS s a.n a.ks else if kd a.k = 6 then crashS s a.ks else if kd a.k = 7 then { s with down := false } else writeS s a.f a.n a.l
def doE (s : RS) (a : AC) : Int := if kd a.k = 2 then syncE s a.f else if kd a.k = 3 then truncE s a.f a.n else if kd a.k = 4 then 0 else
  if kd a.k = 5 then 0 else if kd a.k = 6 then 0 else if kd a.k = 7 then 0 else writeE s a.f a.n a.l
/-- An act that was read: within bounds, its list in memory. -/
structure AC.Ok (a : AC) (w : World) : Prop where
  ints : Ints w a.v a.ks
  n : a.n ≤ 9223372036854775807
  len : a.l.length ≤ 140737488355328
  klen : a.ks.length * 8 ≤ 140737488355328
/-- The list is none of O's. -/
def AC.off (a : AC) (O : Nat → Prop) (w : World) : Prop := ∀ p, a.ks ≠ [] → a.v.ownBlock = some p → p < w.heap.size ∧ ¬ O p
theorem strike_lost (s : RS) : (strikeS s).lost = s.lost := by
  unfold strikeS
  split
  · rfl
  · split
    · unfold crashS
      split
      · rfl
      · exact (crK_rest _ _ _).2.2.1
    · rfl

set_option maxHeartbeats 2000000 in
theorem do_any (O : Nat → Prop) (B : Nat) (a : AC) (s : RS) (w : World) (ha : a.Ok w) (hao : a.off O w) (h : Dk w O B s) (hI : Inv s) (hc : s.calls ≤ 9223372036854775807) (hl : s.lost ≤ 9223372036854775807) :
    Calls Try.prog 12 #[.pointer (some ⟨B, 0, none⟩), .agg #[.int .i64 a.k, .int .i64 a.f, .int .i64 a.n, .string a.str, a.v]] w fun e w' => e = .returned (.int .i64 (doE s a)) ∧ DkP O w w' B (doS s a) := by
  have HL : Hid ((strikeS s).lost ≤ 9223372036854775807) := Lib.hid (by rw [strike_lost]; exact hl)
  obtain ⟨k, f, n, str, v, ks⟩ := a
  obtain ⟨hks, hn, hsl, hkl⟩ := ha
  dsimp only [AC.off] at hks hn hsl hkl hao ⊢
  have HD := Lib.hid h
  have HI := Lib.hid hI
  have HK := Lib.hid hks
  have HN := Lib.hid hn
  have HSL := Lib.hid hsl
  have HKL := Lib.hid hkl
  have HAO := Lib.hid hao
  have HC := Lib.hid hc
  have HSTR : Hid (str.data.toList = AC.l ⟨k, f, n, str, v, ks⟩) := Lib.hid rfl
  clear h hI hks hn hsl hkl hao hc hl
  have hF : ∀ o, Fr w (w.alloc o) := fun o => Fr.alloc w o
  have HF := Lib.hid hF
  clear hF
  go_enter Try.func12, Try.ntmps12
  go_wp2_with (first
    | (go_at_call 19; refine (sync_any O B f s _ (HD.out.fr (HF.out _)) HI.out HC.out HL.out).mono ?_; rintro e w' ⟨rfl, h⟩)
    | (go_at_call 30; refine (trunc_any O B f n s _ (HD.out.fr (HF.out _)) HI.out HC.out).mono ?_; rintro e w' ⟨rfl, h⟩)
    | (go_at_call 31; refine (lose_any O B _ s _ (HD.out.fr (HF.out _))).mono ?_; rintro e w' ⟨rfl, h⟩)
    | (go_at_call 27; refine (arm_any O B n v ks s _ (HD.out.fr (HF.out _)) (HK.out.frame (fun p h0 hp _ => (HF.out _).block (HAO.out p h0 hp).1)) HKL.out).mono ?_; rintro e w' ⟨rfl, h⟩)
    | (go_at_call 25; refine (crash_any ks v O B s _ (HD.out.fr (HF.out _)) HI.out (HK.out.frame (fun p h0 hp _ => (HF.out _).block (HAO.out p h0 hp).1)) (fun p h0 hp => (HAO.out p h0 hp).2)).mono ?_; rintro e w' ⟨rfl, h⟩)
    | (go_at_call 26; refine (start_any O B s _ (HD.out.fr (HF.out _))).mono ?_; rintro e w' ⟨rfl, h⟩)
    | (go_at_call 29; refine (write_any O B f n str _ s _ HSTR.out (HD.out.fr (HF.out _)) HI.out HC.out HSL.out HN.out).mono ?_; rintro e w' ⟨rfl, h⟩))
  all_goals
    go_ret
    have h' := DkP.fr_left (HF.out _) h
    simp only [beq_eq_false_iff_ne, beq_iff_eq, ne_eq] at *
    refine ⟨?_, Eq.mp (congrArg (DkP O w w' B) ?_) h'⟩
    · clear h h' HD HI HK HN HSL HKL HAO HC HSTR HF HL
      refine congrArg (fun z : Int => Ending.returned (.int .i64 z)) ?_
      simp only [doE, kd, *, if_true, if_false, Int.reduceEq]
    · clear h h' HD HI HK HN HSL HKL HAO HC HSTR HF HL
      simp only [doS, kd, nd, *, if_true, if_false, Int.reduceEq]
end Go.Proofs.Ytpjoekjakjajcaa
