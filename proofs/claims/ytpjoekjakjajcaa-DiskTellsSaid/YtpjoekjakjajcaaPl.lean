/-
  The law's helpers: a disk made by the law (DN), played.
-/
import Derived.Test.YtpjoekjakjajcaaFw
namespace Go.Proofs.Ytpjoekjakjajcaa
open Go.RowKit

/-- A disk made since the world W. -/
def DN (W w : World) (B : Nat) (s : RS) : Prop := Fr W w ∧ ∃ O, Dk w O B s ∧ ∀ k, O k → W.heap.size ≤ k
theorem Fr.of_own {W w w' : World} (h : Fr W w) {O : Nat → Prop} (hO : ∀ k, O k → W.heap.size ≤ k) (ho : Own O w w') : Fr W w' :=
  Fr.of_below ⟨ho.os.trans h.below.os, ho.tape.trans h.below.tape, ho.output.trans h.below.output, Nat.le_trans h.size ho.size, fun k hk => (ho.block k (Nat.lt_of_lt_of_le hk h.size) (fun hk' => absurd (hO k hk') (by omega))).trans (h.block hk)⟩
theorem DN.step {W w w' : World} {B : Nat} {s' : RS} {O : Nat → Prop} (h : Fr W w) (hO : ∀ k, O k → W.heap.size ≤ k) (hp : DkP O w w' B s') : DN W w' B s' :=
  let ⟨O', h1, g1, w1⟩ := hp
  ⟨h.of_own hO w1, O', h1, fun k hk => by
    rcases g1 k hk with h2 | h2
    · exact hO k h2
    · exact Nat.le_trans h.size h2.1⟩
theorem DN.fr {W w w' : World} {B : Nat} {s : RS} (h : DN W w B s) (hf : Fr w w') : DN W w' B s :=
  let ⟨h1, O, h2, h3⟩ := h; ⟨h1.trans hf, O, h2.fr hf, h3⟩

/-- The state and its bounds. -/
structure Good (s : RS) : Prop where
  inv : Inv s
  calls : s.calls ≤ 9223372036854775807
  lost : s.lost ≤ 9223372036854775807
  keep : s.keep.length ≤ 60
theorem good_new : Good newS := ⟨inv_new, by decide, by decide, by decide⟩
theorem good_crash {s : RS} (h : Good s) (ks : List Int) : Good (crashS s ks) := by
  refine ⟨inv_crash h.inv ks, ?_, ?_, ?_⟩ <;> unfold crashS <;> split
  · exact h.calls
  · exact Nat.zero_le _
  · exact h.lost
  · show (crK s ks s.q.length).lost ≤ _
    rw [(crK_rest _ _ _).2.2.1]; exact h.lost
  · exact h.keep
  · exact Nat.zero_le _
theorem good_strike {s : RS} (h : Good s) : Good (strikeS s) := by
  unfold strikeS
  split
  · exact h
  · split
    · exact good_crash (s := { s with calls := 0 }) ⟨inv_calls h.inv 0, Nat.zero_le _, h.lost, h.keep⟩ _
    · exact ⟨inv_calls h.inv _, Nat.le_trans (Nat.sub_le _ _) h.calls, h.lost, h.keep⟩
theorem good_wr {s : RS} (h : Good s) (f at_ : Int) (l : List UInt8) : Good (wrS s f at_ l) := by
  refine ⟨inv_wr h.inv f at_ l, ?_, ?_, ?_⟩ <;> unfold wrS <;> split
  · exact h.calls
  · exact h.calls
  · exact h.lost
  · exact h.lost
  · exact h.keep
  · exact h.keep
theorem good_write {s : RS} (h : Good s) (f at_ : Int) (l : List UInt8) : Good (writeS s f at_ l) := by
  unfold writeS
  split
  · exact h
  · exact good_strike (good_wr h f at_ l)
theorem good_settle {s : RS} (h : Good s) (f : Nat) : Good (settleS s f) := ⟨inv_settle h.inv f, h.calls, h.lost, h.keep⟩
theorem good_sync {s : RS} (h : Good s) (f : Int) : Good (syncS s f) := by
  have g := good_strike h
  unfold syncS
  split
  · exact h
  · split
    · exact g
    · split
      · exact g
      · split
        · exact ⟨inv_lost g.inv _, g.calls, Nat.le_trans (Nat.sub_le _ _) g.lost, g.keep⟩
        · exact good_settle g _
theorem good_trunc {s : RS} (h : Good s) (f n : Int) : Good (truncS s f n) := by
  have g := good_strike h
  have hi := inv_trunc h.inv f n
  refine ⟨hi, ?_, ?_, ?_⟩ <;> unfold truncS <;> split
  · exact h.calls
  · split
    · exact g.calls
    · split <;> exact g.calls
  · exact h.lost
  · split
    · exact g.lost
    · split <;> exact g.lost
  · exact h.keep
  · split
    · exact g.keep
    · split <;> exact g.keep
theorem nd_le (n : Int) : (nd n).toNat ≤ 9223372036854775807 := by
  have : nd n ≤ 9223372036854775807 := by
    have h3 : (BitVec.ofInt 64 n &&& BitVec.ofInt 64 3).toNat ≤ 3 := by
      rw [BitVec.toNat_and]
      exact Nat.le_trans Nat.and_le_right (by decide)
    have e : nd n = IntKind.i64.wrap ((BitVec.ofInt 64 n &&& BitVec.ofInt 64 3).toNat : Int) := rfl
    rw [e, IntWalk.i64_in _ (by omega)]
    omega
  omega
theorem good_do {s : RS} (h : Good s) (a : AC) (hn : a.n ≤ 9223372036854775807) (hk : a.ks.length ≤ 60) : Good (doS s a) := by
  unfold doS
  split
  · exact good_sync h _
  split
  · exact good_trunc h _ _
  split
  · exact ⟨inv_lost h.inv _, h.calls, nd_le _, h.keep⟩
  split
  · exact ⟨inv_arm h.inv _ _, by show a.n.toNat ≤ _; omega, h.lost, hk⟩
  split
  · exact good_crash h _
  split
  · exact ⟨inv_down h.inv _, h.calls, h.lost, h.keep⟩
  · exact good_write h _ _ _
def playS (s : RS) (l : List AC) : RS := l.foldl doS s
/-- Acts that were read, within the bounds of few. -/
structure AC.In (a : AC) (W : World) : Prop where
  ints : Ints W a.v a.ks
  n : a.n ≤ 9223372036854775807
  few : a.few
theorem AC.In.good {a : AC} {W : World} (h : a.In W) {s : RS} (hs : Good s) : Good (doS s a) := good_do hs a h.n h.few.2.1
theorem good_play {W : World} {s : RS} (hs : Good s) (l : List AC) (h : ∀ a ∈ l, a.In W) : Good (playS s l) := by
  induction l generalizing s with
  | nil => exact hs
  | cons a l ih => exact ih ((h a (by simp)).good hs) (fun b hb => h b (by simp [hb]))
theorem Ints.lt {W : World} {v : Value} {ks : List Int} (h : Ints W v ks) (p : Nat) (h0 : ks ≠ []) (hp : v.ownBlock = some p) : p < W.heap.size := by
  rcases h with ⟨h, _⟩ | ⟨b, o, c, rfl, h⟩
  · exact absurd h h0
  · have hl : 0 < ks.length := List.length_pos_iff.2 h0
    obtain rfl : b = p := by simpa [Value.ownBlock] using hp
    exact World.block_lt_of_cell? W _ (h 0 hl)

theorem do_dn {W w : World} {B : Nat} {s : RS} (a : AC) (ha : a.In W) (h : DN W w B s) (hg : Good s) :
    Calls Try.prog 12 #[.pointer (some ⟨B, 0, none⟩), .agg #[.int .i64 a.k, .int .i64 a.f, .int .i64 a.n, .string a.str, a.v]] w fun e w' => e = .returned (.int .i64 (doE s a)) ∧ DN W w' B (doS s a) := by
  obtain ⟨hf, O, hd, hO⟩ := h
  refine (do_any O B a s w ⟨ha.ints.fr hf, ha.n, Nat.le_trans ha.few.1 (by decide), by have := ha.few.2.1; omega⟩ (fun p h0 hp => ?_) hd hg.inv hg.calls hg.lost).mono ?_
  · have := ha.ints.lt p h0 hp
    exact ⟨Nat.lt_of_lt_of_le this hf.size, fun hk => absurd (hO p hk) (by omega)⟩
  · rintro e w' ⟨rfl, h⟩
    exact ⟨rfl, .step hf hO h⟩

def PlayedP (W : World) (l : List AC) (e : Ending) (w' : World) : Prop := ∃ B, e = .returned (.pointer (some ⟨B, 0, none⟩)) ∧ DN W w' B (playS newS l)
theorem playS_take (l : List AC) (k : Nat) (h : k < l.length) : playS newS (l.take (k + 1)) = doS (playS newS (l.take k)) l[k] := by
  unfold playS
  rw [List.take_succ_eq_append_getElem h, List.foldl_append]; rfl

theorem played_nil (a : Option Addr) (c : Nat) (W w : World) (hw : Fr W w) :
    Calls Try.prog 22 #[.slice a 0 c] w (PlayedP W []) := by
  have HW := Lib.hid hw
  clear hw
  go_enter Try.func22, Try.ntmps22
  go_wp2_with (go_at_call 10; refine (new_any _).mono ?_; rintro e w1 ⟨B, rfl, hd⟩)
  have HD : Hid (DN W w1 B newS) := Lib.hid (.step HW.out (fun _ h => h.elim) hd)
  clear hd
  go_loopw [4] (fun i wr => i = .int .i64 0 ∧ DN W wr B newS) (fun _ _ => 0)
  case atStart => exact ⟨rfl, HD.out⟩
  case round =>
    obtain ⟨rfl, hwr⟩ := hrel
    have HWR := Lib.hid hwr
    clear hwr
    go_wp2_with fail
    go_ret
    exact ⟨B, rfl, HWR.out⟩

set_option maxHeartbeats 2000000 in
theorem played_at (b o c : Nat) (l : List AC) (W w : World) (hw : Fr W w) (hm : l.length ≤ 40) (hat : ∀ (k : Nat) (h : k < l.length), At W b (o + k * 5) l[k]) (hin : ∀ a ∈ l, a.In W) :
    Calls Try.prog 22 #[.slice (some ⟨b, o, none⟩) l.length c] w (PlayedP W l) := by
  have HA := Lib.hid hat
  have HW := Lib.hid hw
  have HIN := Lib.hid hin
  clear hat hw hin
  go_enter Try.func22, Try.ntmps22
  go_wp2_with (go_at_call 10; refine (new_any _).mono ?_; rintro e w1 ⟨B, rfl, hd⟩)
  have HD : Hid (DN W w1 B newS) := Lib.hid (.step HW.out (fun _ h => h.elim) hd)
  clear hd
  go_loopw [4] (fun i wr => ∃ (k : Nat), k ≤ l.length ∧ i = .int .i64 k ∧ DN W wr B (playS newS (l.take k))) (fun i _ => l.length - (intOf i).toNat)
  case atStart => exact ⟨0, Nat.zero_le _, rfl, HD.out⟩
  case round =>
    obtain ⟨k, hk, rfl, hwr⟩ := hrel
    have HWR := Lib.hid hwr
    clear hwr
    by_cases hlt : k < l.length
    · have hat := (HA.out k hlt).fr HWR.out.1
      have HPL := Lib.hid (playS_take l k hlt)
      have HAI := Lib.hid (HIN.out l[k] (List.getElem_mem hlt))
      generalize hvv : l[k] = a at *
      clear hvv
      have HG : Hid (Good (playS newS (l.take k))) := Lib.hid (good_play good_new _ (fun a ha => HIN.out a (List.mem_of_mem_take ha)))
      have c0 := hat.c0
      have c1 := hat.c1
      have c2 := hat.c2
      have c3 := hat.c3
      have c4 := hat.c4
      clear hat
      go_wp2_with (go_at_call 12; refine (do_dn a HAI.out HWR.out HG.out).mono ?_; rintro e w2 ⟨rfl, h2⟩)
      have H2 := Lib.hid h2
      clear h2 c0 c1 c2 c3 c4
      go_roundw
      case rel => exact ⟨k + 1, by omega, by go_num, by rw [HPL.out]; exact H2.out⟩
      case measure => simp [intOf]; omega
    · go_wp2_with fail
      go_ret
      have hall : l.take k = l := List.take_of_length_le (by omega)
      exact ⟨B, rfl, by have := HWR.out; rw [hall] at this; exact this⟩
theorem played_any (v : Value) (l : List AC) (W w : World) (h : Acts W v l) (hw : Fr W w) (hm : l.length ≤ 40) (hin : ∀ a ∈ l, a.In W) :
    Calls Try.prog 22 #[v] w (PlayedP W l) := by
  rcases h with ⟨rfl, a, c, rfl⟩ | ⟨b, o, c, rfl, h⟩
  · exact played_nil a c W w hw
  · exact played_at b o c l W w hw hm h hin
theorem Acts.ins {W : World} {v : Value} {l : List AC} (h : Acts W v l) (hf : ∀ a ∈ l, a.few) : ∀ a ∈ l, a.In W := by
  rcases h with ⟨rfl, _⟩ | ⟨b, o, c, _, h⟩
  · intro a ha; simp at ha
  · intro a ha
    obtain ⟨k, hk, rfl⟩ := List.mem_iff_getElem.1 ha
    exact ⟨(h k hk).ints, (h k hk).n, hf _ ha⟩
theorem Acts.fr {W w : World} {v : Value} {l : List AC} (h : Acts W v l) (hf : Fr W w) : Acts w v l := by
  rcases h with h | ⟨b, o, c, h1, h⟩
  · exact .inl h
  · exact .inr ⟨b, o, c, h1, fun k hk => (h k hk).fr hf⟩
theorem Acts.form {W : World} {v : Value} {l : List AC} (h : Acts W v l) : ∃ a c, v = .slice a l.length c := by
  rcases h with ⟨rfl, a, c, rfl⟩ | ⟨b, o, c, rfl, _⟩
  · exact ⟨a, c, rfl⟩
  · exact ⟨_, _, rfl⟩
theorem Acts.get {W : World} {a : Option Addr} {n c : Nat} {l : List AC} (h : Acts W (.slice a n c) l) (k : Nat) (hk : k < l.length) : ∃ b o, a = some ⟨b, o, none⟩ ∧ At W b (o + k * 5) l[k] := by
  rcases h with ⟨rfl, _⟩ | ⟨b, o, c', e, h⟩
  · simp at hk
  · simp only [Value.slice.injEq] at e
    exact ⟨b, o, e.1, h k hk⟩
end Go.Proofs.Ytpjoekjakjajcaa
