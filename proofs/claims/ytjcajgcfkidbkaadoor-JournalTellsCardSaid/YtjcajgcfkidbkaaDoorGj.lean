/-
  The reference's disk and its journal, if it is open: Open, Append, Sync.
-/
import Derived.Test.YtjcajgcfkidbkaaDoorGb
import Derived.Test.YtjcajgcfkidbkaaDoorGc
namespace Go.Proofs.YtjcajgcfkidbkaaDoor
open Go.RowKit

theorem sep_assoc {A B C : Thing} {w : World} {O : Nat → Prop} (h : ((A.sep B).sep C).at_ w O) : (A.sep (B.sep C)).at_ w O := by
  obtain ⟨O1, O2, ⟨O3, O4, h3, h4, h5, h6⟩, h2, h7, h8⟩ := h
  refine ⟨O3, fun k => O4 k ∨ O2 k, h3, ⟨O4, O2, h4, h2, fun k hk hk' => h7 k ((h6 k).2 (.inr hk)) hk', fun k => Iff.rfl⟩, fun k hk hk' => ?_, fun k => ?_⟩
  · rcases hk' with h | h
    · exact h5 k hk h
    · exact h7 k ((h6 k).2 (.inl hk)) h
  · rw [h8 k, h6 k]
    exact or_assoc
theorem sep_assoc' {A B C : Thing} {w : World} {O : Nat → Prop} (h : (A.sep (B.sep C)).at_ w O) : ((A.sep B).sep C).at_ w O := by
  obtain ⟨O1, O2, h1, ⟨O3, O4, h3, h4, h5, h6⟩, h7, h8⟩ := h
  refine ⟨fun k => O1 k ∨ O3 k, O4, ⟨O1, O3, h1, h3, fun k hk hk' => h7 k hk ((h6 k).2 (.inl hk')), fun k => Iff.rfl⟩, h4, fun k hk hk' => ?_, fun k => ?_⟩
  · rcases hk with h | h
    · exact h7 k h ((h6 k).2 (.inr hk'))
    · exact h5 k h hk'
  · rw [h8 k, h6 k]
    exact or_assoc.symm
theorem sep_turn {T U V : Thing} {w : World} {O : Nat → Prop} (h : (T.sep (U.sep V)).at_ w O) : (U.sep (T.sep V)).at_ w O := by
  obtain ⟨O1, O2, h1, ⟨O3, O4, h5, h6, h7, h8⟩, h3, h4⟩ := h
  refine ⟨O3, fun k => O1 k ∨ O4 k, h5, ⟨O1, O4, h1, h6, fun k hk hk' => h3 k hk ((h8 k).2 (.inr hk')), fun k => Iff.rfl⟩, fun k hk hk' => ?_, fun k => ?_⟩
  · rcases hk' with hk' | hk'
    · exact h3 k hk' ((h8 k).2 (.inl hk))
    · exact h7 k hk hk'
  · rw [h4 k, h8 k]
    constructor
    · rintro (h | h | h)
      · exact .inr (.inl h)
      · exact .inl h
      · exact .inr (.inr h)
    · rintro (h | h | h)
      · exact .inr (.inl h)
      · exact .inl h
      · exact .inr (.inr h)
theorem sep_under {T U U' : Thing} {w : World} {O : Nat → Prop} (h : (T.sep U).at_ w O) (f : ∀ O, U.at_ w O → U'.at_ w O) : (T.sep U').at_ w O :=
  let ⟨O1, O2, h1, h2, h3⟩ := h; ⟨O1, O2, h1, f O2 h2, h3⟩
theorem Has.map {W w : World} {T T' : Thing} (h : Has W w T) (f : ∀ O, T.at_ w O → T'.at_ w O) : Has W w T' := let ⟨h1, O, h2, h3⟩ := h; ⟨h1, O, f O h2, h3⟩

/-- The cells of the reference's journal. -/
def rjC (R : Nat) (f : Int) (rv : Value) (br : Bool) : Array Value := #[.pointer (some ⟨R, 0, none⟩), .int .i64 f, rv, .bool br]
/-- Its disk, its block, its records. -/
def RjP (R n : Nat) (s : RS) (K : Nat) (f : Int) (rv : Value) (br : Bool) (rs : List (List UInt8)) : Thing :=
  (QfT R n s).sep ((BoxT 49 K (rjC R f rv br)).sep (RowT 9 1 rv rs.length (strs rs)))
def RAt (kv : Value) (R n : Nat) (f : Int) (s : RS) (g : JG) (w : World) (O : Nat → Prop) : Prop :=
  (g = none ∧ kv = .pointer none ∧ (QfT R n s).at_ w O) ∨ ∃ K rv rs br, g = some (rs, br) ∧ kv = .pointer (some ⟨K, 0, none⟩) ∧ (RjP R n s K f rv br rs).at_ w O
def RjT (kv : Value) (R n : Nat) (f : Int) (s : RS) (g : JG) : Thing where
  at_ w O := RAt kv R n f s g w O
  bound h k hk := by
    rcases h with ⟨_, _, h⟩ | ⟨K, rv, rs, br, _, _, h⟩
    · exact (QfT R n s).bound h k hk
    · exact (RjP R n s K f rv br rs).bound h k hk
  frame h hs hw := by
    rcases h with ⟨h1, h2, h⟩ | ⟨K, rv, rs, br, h1, h2, h⟩
    · exact .inl ⟨h1, h2, (QfT R n s).frame h hs hw⟩
    · exact .inr ⟨K, rv, rs, br, h1, h2, (RjP R n s K f rv br rs).frame h hs hw⟩
theorem Has.rj {W w : World} {U : Thing} {R n K : Nat} {s : RS} {f : Int} {rv : Value} {br : Bool} {rs : List (List UInt8)}
    (h : Has W w ((QfT R n s).sep ((BoxT 49 K (rjC R f rv br)).sep ((RowT 9 1 rv rs.length (strs rs)).sep U)))) : Has W w ((RjT (.pointer (some ⟨K, 0, none⟩)) R n f s (some (rs, br))).sep U) := by
  refine (h.map fun O h => sep_assoc' (sep_under h fun O h => sep_assoc' h)).map fun O h => ?_
  obtain ⟨O1, O2, h1, h2, h3⟩ := h
  exact ⟨O1, O2, .inr ⟨K, rv, rs, br, rfl, rfl, h1⟩, h2, h3⟩
theorem Has.rj0 {W w : World} {U : Thing} {R n : Nat} {s : RS} (f : Int) (h : Has W w ((QfT R n s).sep U)) : Has W w ((RjT (.pointer none) R n f s none).sep U) := by
  refine h.map fun O h => ?_
  obtain ⟨O1, O2, h1, h2, h3⟩ := h
  exact ⟨O1, O2, .inl ⟨rfl, rfl, h1⟩, h2, h3⟩
theorem Has.unrj {W w : World} {U : Thing} {kv : Value} {R n : Nat} {s : RS} {f : Int} {g : JG} (h : Has W w ((RjT kv R n f s g).sep U)) :
    (g = none ∧ kv = .pointer none ∧ Has W w ((QfT R n s).sep U)) ∨ ∃ K rv rs br, g = some (rs, br) ∧ kv = .pointer (some ⟨K, 0, none⟩) ∧ Has W w ((QfT R n s).sep ((BoxT 49 K (rjC R f rv br)).sep ((RowT 9 1 rv rs.length (strs rs)).sep U))) := by
  obtain ⟨hf, O, ⟨O1, O2, h1, h2, h3⟩, hO⟩ := h
  rcases h1 with ⟨e1, e2, h1⟩ | ⟨K, rv, rs, br, e1, e2, h1⟩
  · exact .inl ⟨e1, e2, hf, O, ⟨O1, O2, h1, h2, h3⟩, hO⟩
  · refine .inr ⟨K, rv, rs, br, e1, e2, ?_⟩
    have h : Has W w ((RjP R n s K f rv br rs).sep U) := ⟨hf, O, ⟨O1, O2, h1, h2, h3⟩, hO⟩
    exact h.map fun O h => sep_under (sep_assoc h) fun O h => sep_assoc h
/-- The journal is forgotten. -/
theorem Has.rleave {W w : World} {U : Thing} {kv : Value} {R n : Nat} {s : RS} {f : Int} {g : JG} (h : Has W w ((RjT kv R n f s g).sep U)) : Has W w ((QfT R n s).sep U) := by
  rcases h.unrj with ⟨_, _, h⟩ | ⟨K, rv, rs, br, _, _, h⟩
  · exact h
  · exact h.turn.right.turn.right
/-- A call of the disk's. -/
theorem Has.rdisk {W w : World} {U : Thing} {kv : Value} {R n n' : Nat} {s s' : RS} {f : Int} {g : JG} {fn : FuncId} {args : Array Value} {r : Ending} (h : Has W w ((RjT kv R n f s g).sep U))
    (hc : ∀ U', Has W w ((QfT R n s).sep U') → Calls Tryd.prog fn args w fun e w' => e = r ∧ Has W w' ((QfT R n' s').sep U')) : Calls Tryd.prog fn args w fun e w' => e = r ∧ Has W w' ((RjT kv R n' f s' g).sep U) := by
  rcases h.unrj with ⟨rfl, rfl, k⟩ | ⟨K, rv, rs, br, rfl, rfl, k⟩
  · exact (hc _ k).mono fun e w' ⟨h1, h2⟩ => ⟨h1, h2.rj0 f⟩
  · exact (hc _ k).mono fun e w' ⟨h1, h2⟩ => ⟨h1, h2.rj⟩
theorem Has.rmono {W w : World} {U : Thing} {kv : Value} {R n m : Nat} {s : RS} {f : Int} {g : JG} (h : Has W w ((RjT kv R n f s g).sep U)) (hm : n ≤ m) : Has W w ((RjT kv R m f s g).sep U) := by
  rcases h.unrj with ⟨rfl, rfl, k⟩ | ⟨K, rv, rs, br, rfl, rfl, k⟩
  · exact (QfT.mono k hm).rj0 f
  · exact (QfT.mono k hm).rj
/-- Whether the journal is there, and its records. -/
theorem Has.rkv {W w : World} {U : Thing} {kv : Value} {R n : Nat} {s : RS} {f : Int} {g : JG} (h : Has W w ((RjT kv R n f s g).sep U)) :
    (g = none ∧ kv = .pointer none) ∨ ∃ K rv rs br, g = some (rs, br) ∧ kv = .pointer (some ⟨K, 0, none⟩) ∧ w.heap[K]? = some (.cells (rjC R f rv br) 49 (0, 0)) ∧ Row w rv rs := by
  rcases h.unrj with ⟨h1, h2, _⟩ | ⟨K, rv, rs, br, h1, h2, h⟩
  · exact .inl ⟨h1, h2⟩
  · exact .inr ⟨K, rv, rs, br, h1, h2, h.turn.boxed, h.turn.right.turn.row⟩
theorem read_file {s : RS} {f : Nat} (hd : s.down = false) (hf : f < 16) : readL s f 0 (s.sz f : Nat) = fileL s f ∧ readE s f 0 (s.sz f : Nat) = 0 := by
  have h : ¬ (¬ isF (f : Int) ∨ (0 : Int) < 0 ∨ ((s.sz f : Nat) : Int) < 0) := by
    rintro (h | h | h)
    · exact h ⟨by omega, by omega⟩
    · omega
    · omega
  constructor
  · unfold readL
    rw [if_neg (fun e => by rcases e with e | e; rw [hd] at e; exact absurd e (by decide); exact h e)]
    unfold fileL readN
    simp
  · unfold readE
    rw [if_neg (by rw [hd]; decide), if_neg h]

set_option maxHeartbeats 2000000 in
set_option maxRecDepth 100000 in
theorem Has.ropen {W w : World} {U : Thing} {R n f : Nat} {s : RS} (h : Has W w ((QfT R n s).sep U)) (hg : Good s) (hn : n ≤ 48000) (hf : f < 16) :
    Calls Tryd.prog 13 #[.pointer (some ⟨R, 0, none⟩), .int .i64 f] w fun e w' => ∃ kv E s' g', OpenG s f E s' g' ∧ e = .returned (.tuple #[kv, .int .i64 E]) ∧ Has W w' ((RjT kv R (n + 1400) f s' g').sep U) := by
  have HS := Lib.hid (h.qsync hg (by omega) f)
  have HG1 := Lib.hid (good_sync hg f)
  have h0 : ¬ ((f : Int) < 0) := by omega
  have h1 : ¬ ((15 : Int) < (f : Int)) := by omega
  generalize hE : syncE s f = E at HS
  have HE := Lib.hid hE
  clear hE h hg
  go_enter Tryd.func13, Tryd.ntmps13
  go_wp2_with fail
  refine HS.out.mono ?_
  rintro e w1 ⟨rfl, h1'⟩
  have H1 := Lib.hid h1'
  clear h1' HS
  by_cases hz : E = 0
  · subst hz
    obtain ⟨_, _, hdn⟩ := sync_ok HE.out
    have hfl := fileL_len (syncS s f) f
    have hzm := HG1.out.inv.max f
    have HSZ := Lib.hid (H1.out.qsize hf)
    have HRD : Hid (∀ w2, Fr w1 w2 → Calls Tryd.prog 32 #[.pointer (some ⟨R, 0, none⟩), .int .i64 f, .int .i64 0, .int .i64 ((syncS s f).sz f : Nat)] w2 fun e w' => e = .returned (.tuple #[.string (S (fileL (syncS s f) f)), .int .i64 0]) ∧ Fr w2 w') := Lib.hid fun w2 hF => by
      have h := Has.qread f 0 ((syncS s f).sz f : Nat) (H1.out.fr hF) HG1.out (by omega) (by omega)
      rw [(read_file hdn hf).1, (read_file hdn hf).2] at h
      exact h
    clear hdn
    generalize (syncS s f).sz f = z at *
    generalize hll : fileL (syncS s f) f = fl at *
    have HLL := Lib.hid hll
    clear hll
    go_wp2_with fail
    refine HSZ.out.mono ?_
    rintro e w2 ⟨rfl, hf2⟩
    have HF2 := Lib.hid hf2
    clear hf2 HSZ
    go_wp2_with fail
    refine (HRD.out _ HF2.out).mono ?_
    rintro e w3 ⟨rfl, hf3⟩
    have HF3 := Lib.hid (HF2.out.trans hf3)
    clear hf3 HRD HF2
    go_wp2_with fail
    refine (rrecords_any fl w3 (by omega)).mono ?_
    rintro e w4 ⟨v, rs, rest, rfl, hrc, hrow, hf4⟩
    have HLEN : Hid (fl.length = (Jm.forms rs).length + rest.length) := Lib.hid (by rw [hrc.eq, List.length_append])
    have HFM : (Jm.forms rs).length ≤ 33554432 := by have := HLEN.out; omega
    obtain ⟨va, vc, hv⟩ := strs_form hrow
    obtain ⟨m, hm⟩ : ∃ m, m = rs.length := ⟨_, rfl⟩
    rw [← hm] at hv
    subst hv
    have H4 := Lib.hid ((H1.out.fr HF3.out).new (RowT.made hrow hf4)).turn
    have H5 := Lib.hid (H4.out.box 49 (rjC R f (.slice va m vc) false)).turn
    have HSL := Lib.hid ((Row.isSl (row_mono hrow (Nat.zero_le _))).fr (Fr.alloc w4 (.cells (rjC R f (.slice va m vc) false) 49)))
    have HRC := Lib.hid hrc
    have HM := Lib.hid hm
    have HFO := Lib.hid (rforms_any HSL.out hrc.small HFM)
    clear HFM
    generalize hq : Jm.forms rs = q at *
    have HQ := Lib.hid hq
    clear hrc hrow hf4 H4 H1 HF3 hfl hm hq HSL
    go_wp2_with fail
    refine HFO.out.mono ?_
    rintro e w6 ⟨rfl, hf6⟩
    have H6 := Lib.hid (H5.out.fr hf6)
    clear hf6 HFO H5
    by_cases hrest : rest = []
    · have hle : ¬ ((q.length : Int) < (fl.length : Int)) := by have h := HLEN.out; rw [hrest] at h; simp at h; omega
      have HR := Lib.hid hrest
      clear hrest
      go_wp2_with fail
      refine bodyPost_ret (v := .tuple #[.pointer (some ⟨w4.heap.size, 0, none⟩), .int .i64 0]) ?_ rfl ⟨_, _, _, _, .whole HE.out rs (by rw [HLL.out, ← HR.out]; exact HRC.out), rfl, (QfT.mono H6.out (by omega)).rj⟩
      simp [results, Tryd.results13, go_sem]
    · have hlt : (q.length : Int) < (fl.length : Int) := by
        have h1 : 0 < rest.length := List.length_pos_iff.2 hrest
        have h2 := HLEN.out
        omega
      have HR := Lib.hid hrest
      have HTR := Lib.hid (H6.out.qtrunc HG1.out (by omega) f (q.length : Nat))
      clear hrest
      generalize hT : truncE (syncS s f) f (q.length : Nat) = T at HTR
      have HT := Lib.hid hT
      clear hT
      go_wp2_with fail
      refine HTR.out.mono ?_
      rintro e w7 ⟨rfl, h7⟩
      have H7 := Lib.hid h7
      clear h7 HTR
      by_cases hT0 : T = 0
      · subst hT0
        go_wp2_with fail
        refine bodyPost_ret (v := .tuple #[.pointer (some ⟨w4.heap.size, 0, none⟩), .int .i64 0]) ?_ rfl ⟨_, _, _, _, .cut HE.out rs rest (by rw [HLL.out]; exact HRC.out) HR.out (by rw [HQ.out]; exact HT.out), rfl, by rw [HQ.out]; exact (QfT.mono H7.out (by omega)).rj⟩
        simp [results, Tryd.results13, go_sem]
      · have HT0 := Lib.hid hT0
        go_wp2_with fail
        refine bodyPost_ret (v := .tuple #[.pointer none, .int .i64 T]) ?_ rfl ⟨_, _, _, _, .torn HE.out rs rest (by rw [HLL.out]; exact HRC.out) HR.out (by rw [HQ.out, HT.out]; exact HT0.out), by rw [HQ.out, HT.out], by rw [HQ.out]; exact (QfT.mono H7.out.turn.right.turn.right (by omega)).rj0 f⟩
        simp [results, Tryd.results13, go_sem]
  · have HZ := Lib.hid hz
    go_wp2_with fail
    refine bodyPost_ret (v := .tuple #[.pointer none, .int .i64 E]) ?_ rfl ⟨_, _, _, _, .lost (by rw [HE.out]; exact HZ.out), by rw [HE.out], (QfT.mono H1.out (by omega)).rj0 f⟩
    simp [results, Tryd.results13, go_sem]

set_option maxHeartbeats 1000000 in
set_option maxRecDepth 100000 in
theorem Has.rsync {W w : World} {U : Thing} {K R n f : Nat} {s : RS} {rs : List (List UInt8)} {br : Bool} (h : Has W w ((RjT (.pointer (some ⟨K, 0, none⟩)) R n f s (some (rs, br))).sep U)) (hg : Good s) (hn : n ≤ 48000) :
    Calls Tryd.prog 19 #[.pointer (some ⟨K, 0, none⟩)] w fun e w' => e = .returned (.int .i64 (syE s f br)) ∧ Has W w' ((RjT (.pointer (some ⟨K, 0, none⟩)) R (n + 1400) f (syS s f br) (syG s f rs br)).sep U) := by
  rcases h.unrj with ⟨h1, _⟩ | ⟨K', rv, rs', br', h1, h2, h⟩
  · simp at h1
  obtain ⟨rfl, rfl⟩ := Prod.mk.inj (Option.some.inj h1)
  obtain rfl : K = K' := by simpa using h2
  clear h1 h2
  have hb := h.turn.boxed
  have c3 : w.cell? ⟨K, 3, none⟩ = some (.bool br) := cellOf hb rfl
  cases br with
  | true =>
    have H := Lib.hid (QfT.mono h (m := n + 1400) (by omega))
    clear h hb
    go_enter Tryd.func19, Tryd.ntmps19
    go_wp2_with fail
    go_ret
    exact ⟨rfl, H.out.rj⟩
  | false =>
    have c0 : w.cell? ⟨K, 0, none⟩ = some (.pointer (some ⟨R, 0, none⟩)) := cellOf hb rfl
    have c1 : w.cell? ⟨K, 1, none⟩ = some (.int .i64 f) := cellOf hb rfl
    have e1 : syE s f false = syncE s f := rfl
    have e2 : syS s f false = syncS s f := rfl
    have e3 : syG s f rs false = some (rs, syncE s f != 0) := rfl
    rw [e1, e2, e3]
    have HS := Lib.hid (fun (w1 : World) (hF : Fr w w1) => (h.fr hF).qsync hg (by omega) f)
    generalize syncE s f = E at *
    clear h hb e1 e2 e3
    go_enter Tryd.func19, Tryd.ntmps19
    go_wp2_with fail
    go_region_with (go_at_call 49; refine (HS.out _ (Fr.drew w)).mono ?_; rintro e w2 ⟨rfl, h2⟩; have H2 := Lib.hid h2; have z3 := frozenOf h2.turn.boxed 3; have b3 : w2.cell? ⟨K, 3, none⟩ = some (.bool false) := cellOf h2.turn.boxed rfl; have H3 := Lib.hid (h2.turn.set 3 (.bool (E != 0))).turn; clear h2)
    all_goals
      go_wp2_with fail
      go_ret
      exact ⟨rfl, (QfT.mono H3.out (by omega)).rj⟩
end Go.Proofs.YtjcajgcfkidbkaaDoor
