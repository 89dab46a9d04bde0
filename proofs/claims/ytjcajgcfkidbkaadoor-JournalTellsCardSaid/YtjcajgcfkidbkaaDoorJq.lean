/-
  Files as lists of bytes; a disk on which nothing is scheduled or lost (Qt): what each call does to its files.
-/
import Derived.Test.YtjcajgcfkidbkaaDoorJn
namespace Go.Proofs.YtjcajgcfkidbkaaDoor
open Go.RowKit

theorem fileL_get (s : RS) (f i : Nat) (h : i < (fileL s f).length) : (fileL s f)[i] = s.now f i := by simp [fileL, bytesOf]
theorem fileL_ext {s : RS} {f : Nat} {l : List UInt8} (h1 : s.sz f = l.length) (h2 : ∀ i (h : i < l.length), s.now f i = l[i]) : fileL s f = l := by
  apply List.ext_getElem
  · rw [fileL_len, h1]
  · intro i a b
    rw [fileL_get, h2 i b]
theorem fileL_congr {s s' : RS} {f : Nat} (h1 : s.sz f = s'.sz f) (h2 : ∀ i, i < s.sz f → s.now f i = s'.now f i) : fileL s f = fileL s' f :=
  fileL_ext (by rw [fileL_len, h1]) (fun i h => by rw [fileL_get]; exact h2 i (by rw [fileL_len] at h; omega))
theorem strike_zero {s : RS} (hc : s.calls = 0) : strikeS s = s := if_pos hc
theorem settle_file (s : RS) (f g : Nat) : fileL (settleS s f) g = fileL s g := rfl
theorem cut_file {s : RS} {f n : Nat} (hn : n ≤ s.sz f) : fileL (cutS (settleS s f) f n) f = (fileL s f).take n := by
  have hl := fileL_len s f
  refine fileL_ext ?_ (fun i h => ?_)
  · rw [List.length_take, hl]; show (if f = f then n else _) = _; rw [if_pos rfl]; omega
  · rw [List.length_take] at h
    rw [List.getElem_take, fileL_get]
    show (if f = f ∧ n ≤ i then 0 else s.now f i) = _
    rw [if_neg (by omega)]
theorem cut_other {s : RS} {f g n : Nat} (hg : g ≠ f) : fileL (cutS (settleS s f) f n) g = fileL s g := by
  refine fileL_congr ?_ (fun i h => ?_)
  · show (if g = f then n else s.sz g) = _; rw [if_neg hg]
  · show (if g = f ∧ n ≤ i then 0 else s.now g i) = _; rw [if_neg (fun h => hg h.1)]
theorem chk_end {f at_ n : Nat} (hf : f < 16) (hm : at_ + n ≤ 16777216) : chk f at_ n = 0 := by unfold chk; rw [if_neg (by omega), if_neg (by omega)]
theorem wr_file {s : RS} {f at_ : Nat} {l : List UInt8} (hf : f < 16) (ha : at_ = s.sz f) (hm : at_ + l.length ≤ 16777216) : fileL (wrS s f at_ l) f = fileL s f ++ l := by
  by_cases hl : l = []
  · subst hl
    have e : wrS s f at_ [] = s := by unfold wrS; rw [if_neg (fun h => h.2 rfl)]
    rw [e, List.append_nil]
  have e : wrS s f at_ l = putS s f at_ l := by
    unfold wrS
    rw [if_pos ⟨chk_end hf hm, hl⟩]
    rfl
  have hpos : 0 < l.length := List.length_pos_iff.2 hl
  rw [e]
  refine fileL_ext ?_ (fun i h => ?_)
  · rw [List.length_append, fileL_len]
    show (if f = f then max (s.sz f) (at_ + l.length) else _) = _
    rw [if_pos rfl]; omega
  · rw [List.length_append, fileL_len] at h
    show (if f = f ∧ at_ ≤ i ∧ i < at_ + pos at_ l.length (tot at_ l.length) then l.getD (i - at_) 0 else s.now f i) = _
    rw [pos_tot at_ l.length hpos]
    by_cases hi : i < s.sz f
    · rw [if_neg (by omega), List.getElem_append_left (by rw [fileL_len]; exact hi), fileL_get]
    · rw [if_pos ⟨rfl, by omega, by omega⟩, List.getElem_append_right (by rw [fileL_len]; omega), List.getD_eq_getElem?_getD, List.getElem?_eq_getElem (by omega)]
      simp only [fileL_len, Option.getD_some, ha]
theorem wr_other {s : RS} {f : Nat} {at_ : Int} {g : Nat} {l : List UInt8} (hg : g ≠ f) : fileL (wrS s f at_ l) g = fileL s g := by
  unfold wrS
  split
  · refine fileL_congr ?_ (fun i h => ?_)
    · show (if g = (f : Int).toNat then _ else s.sz g) = _; rw [if_neg (by simpa using hg)]
    · show (if g = (f : Int).toNat ∧ _ ∧ _ then _ else s.now g i) = _; rw [if_neg (fun h => hg (by simpa using h.1))]
  · rfl

/-- Nothing is scheduled, nothing is lost, and the machine is up. -/
structure Qt (s : RS) : Prop where
  good : Good s
  down : s.down = false
  calls : s.calls = 0
  lost : s.lost = 0
theorem qt_new : Qt newS := ⟨good_new, rfl, rfl, rfl⟩
theorem q_sync {s : RS} (h : Qt s) {f : Nat} (hf : f < 16) : syncE s f = 0 ∧ syncS s f = settleS s f := by
  have e : strikeS s = s := strike_zero h.calls
  have hf' : ¬ ¬ isF (f : Int) := fun h => h ⟨by omega, by omega⟩
  unfold syncE syncS
  rw [e, h.down, h.lost, if_neg Bool.false_ne_true, if_neg Bool.false_ne_true, if_neg Bool.false_ne_true, if_neg Bool.false_ne_true, if_neg hf', if_neg hf', if_neg (by omega), if_neg (by omega)]
  exact ⟨rfl, rfl⟩
theorem Qt.sync {s : RS} (h : Qt s) {f : Nat} (hf : f < 16) : Qt (syncS s f) := by
  have hg := good_sync h.good f
  rw [(q_sync h hf).2] at hg ⊢
  exact ⟨hg, h.down, h.calls, h.lost⟩
theorem q_trunc {s : RS} (h : Qt s) {f n : Nat} (hf : f < 16) (hn : n ≤ s.sz f) : truncE s f n = 0 ∧ truncS s f n = cutS (settleS s f) f n := by
  have e : strikeS s = s := strike_zero h.calls
  have h1 : ¬ ¬ (isF f ∧ (0 : Int) ≤ n ∧ (n : Int) ≤ (s.sz (f : Int).toNat : Nat)) := by
    unfold isF
    rw [show ((f : Int)).toNat = f from rfl]; omega
  unfold truncE truncS
  rw [e, h.down, if_neg Bool.false_ne_true, if_neg Bool.false_ne_true, if_neg Bool.false_ne_true, if_neg Bool.false_ne_true, if_neg h1, if_neg h1]
  exact ⟨rfl, rfl⟩
theorem Qt.trunc {s : RS} (h : Qt s) {f n : Nat} (hf : f < 16) (hn : n ≤ s.sz f) : Qt (truncS s f n) := by
  have hg := good_trunc h.good f n
  rw [(q_trunc h hf hn).2] at hg ⊢
  exact ⟨hg, h.down, h.calls, h.lost⟩
theorem q_write {s : RS} (h : Qt s) (f at_ : Int) (l : List UInt8) : writeS s f at_ l = wrS s f at_ l ∧ writeE s f at_ l = chk f at_ l.length := by
  have e : strikeS (wrS s f at_ l) = wrS s f at_ l := if_pos (by rw [(wr_calls s f at_ l).1]; exact h.calls)
  unfold writeS writeE
  rw [e, (wr_calls s f at_ l).2, h.down]
  exact ⟨rfl, rfl⟩
theorem wr_lost (s : RS) (f at_ : Int) (l : List UInt8) : (wrS s f at_ l).lost = s.lost := by
  unfold wrS
  split <;> rfl
theorem Qt.write {s : RS} (h : Qt s) (f at_ : Int) (l : List UInt8) : Qt (writeS s f at_ l) := by
  have hg := good_write h.good f at_ l
  rw [(q_write h f at_ l).1] at hg ⊢
  exact ⟨hg, (wr_calls s f at_ l).2.trans h.down, (wr_calls s f at_ l).1.trans h.calls, (wr_lost s f at_ l).trans h.lost⟩

/-- One file is another one. -/
def put (F : Nat → List UInt8) (f : Nat) (l : List UInt8) : Nat → List UInt8 := fun g => if g = f then l else F g
theorem put_same (F : Nat → List UInt8) (f : Nat) (l : List UInt8) : put F f l f = l := if_pos rfl
theorem put_other (F : Nat → List UInt8) {f g : Nat} (l : List UInt8) (h : g ≠ f) : put F f l g = F g := if_neg h

/-- A step, after which the blocks O' belong to what is looked at. -/
structure Step (O : Nat → Prop) (w w' : World) (O' : Nat → Prop) : Prop where
  sub : ∀ k, O' k → Gr O w w' k
  own : Own O w w'
theorem Step.fr {O : Nat → Prop} {w w' : World} (h : Fr w w') : Step O w w' O := ⟨Gr.self, Own.of_fr h⟩
theorem Step.trans {O O1 O2 : Nat → Prop} {a b c : World} (h : Step O a b O1) (k : Step O1 b c O2) : Step O a c O2 :=
  ⟨fun x hx => Gr.trans h.own.size k.own.size h.sub x (k.sub x hx), h.own.trans h.sub k.own⟩
theorem Step.mono {O O1 O' : Nat → Prop} {w w' : World} (h : Step O w w' O') (hs : ∀ k, O k → O1 k) : Step O1 w w' O' :=
  ⟨fun k hk => by rcases h.sub k hk with h1 | h1; exact .inl (hs k h1); exact .inr h1, h.own.mono hs⟩
/-- Seen from a world W in which none of it was there. -/
structure New (W w : World) (O : Nat → Prop) : Prop where
  fr : Fr W w
  up : ∀ k, O k → W.heap.size ≤ k
theorem New.refl (W : World) : New W W (fun _ => False) := ⟨Fr.refl W, fun _ h => h.elim⟩
theorem New.step {W w w' : World} {O O' : Nat → Prop} (h : New W w O) (k : Step O w w' O') : New W w' O' :=
  ⟨Fr.of_below ⟨k.own.os.trans h.fr.below.os, k.own.tape.trans h.fr.below.tape, k.own.output.trans h.fr.below.output, Nat.le_trans h.fr.size k.own.size, fun i hi => (k.own.block i (Nat.lt_of_lt_of_le hi h.fr.size) (fun ho => absurd (h.up i ho) (by omega))).trans (h.fr.below.block i hi)⟩, fun i hi => by
    rcases k.sub i hi with h1 | h1
    · exact h.up i h1
    · exact Nat.le_trans h.fr.size h1.1⟩
theorem New.tab {W w : World} {O : Nat → Prop} (h : New W w O) (ht : Tab W) : Tab w := ht.fr h.fr

/-- A slice of strings, none of O's. -/
structure Ro (w : World) (O : Nat → Prop) (v : Value) (rs : List (List UInt8)) : Prop where
  row : Row w v rs
  off : ∀ p, v.ownBlock = some p → ¬ O p
theorem Ro.step {w w' : World} {O O' : Nat → Prop} {v : Value} {rs : List (List UInt8)} (h : Ro w O v rs) (k : Step O w w' O') : Ro w' O' v rs :=
  ⟨ownsRow_heap h.row (fun p hp => k.own.block p (h.row.lt p hp).2 (h.off p hp)), fun p hp ho => by
    rcases k.sub p ho with h1 | h1
    · exact h.off p hp h1
    · have := (h.row.lt p hp).2; omega⟩
theorem Ro.fr {w w' : World} {O : Nat → Prop} {v : Value} {rs : List (List UInt8)} (h : Ro w O v rs) (k : Fr w w') : Ro w' O v rs := h.step (.fr k)
theorem Ro.sub {w : World} {O O' : Nat → Prop} {v : Value} {rs : List (List UInt8)} (h : Ro w O v rs) (hs : ∀ k, O' k → O k) : Ro w O' v rs := ⟨h.row, fun p hp ho => h.off p hp (hs p ho)⟩

def QD (w : World) (O : Nat → Prop) (B : Nat) (F : Nat → List UInt8) : Prop := ∃ s, Dk w O B s ∧ Qt s ∧ ∀ g, fileL s g = F g
def QJ (w : World) (O : Nat → Prop) (B J : Nat) (F : Nat → List UInt8) (f : Nat) (rs : List (List UInt8)) : Prop := ∃ s, JD w O B J s f rs false ∧ Qt s ∧ ∀ g, fileL s g = F g
theorem QD.fr {w w' : World} {O : Nat → Prop} {B : Nat} {F : Nat → List UInt8} (h : QD w O B F) (k : Fr w w') : QD w' O B F := let ⟨s, h1, h2, h3⟩ := h; ⟨s, h1.fr k, h2, h3⟩
theorem QJ.fr {w w' : World} {O : Nat → Prop} {B J f : Nat} {F : Nat → List UInt8} {rs : List (List UInt8)} (h : QJ w O B J F f rs) (k : Fr w w') : QJ w' O B J F f rs := let ⟨s, h1, h2, h3⟩ := h; ⟨s, h1.fr k, h2, h3⟩
theorem QJ.disk {w : World} {O : Nat → Prop} {B J f : Nat} {F : Nat → List UInt8} {rs : List (List UInt8)} (h : QJ w O B J F f rs) : ∃ Od rv, QD w Od B F ∧ (∀ k, Od k → O k) ∧ Jn w J B f rv rs false ∧ ¬ Od J ∧ ∀ p, rv.ownBlock = some p → ¬ Od p :=
  let ⟨s, ⟨Od, rv, hj⟩, h2, h3⟩ := h; ⟨Od, rv, ⟨s, hj.dk, h2, h3⟩, hj.sub, hj.jn, hj.nJ, hj.nR⟩
theorem QJ.jn {w : World} {O : Nat → Prop} {B J f : Nat} {F : Nat → List UInt8} {rs : List (List UInt8)} (h : QJ w O B J F f rs) : ∃ rv, Jn w J B f rv rs false := let ⟨_, rv, _, _, h1, _⟩ := h.disk; ⟨rv, h1⟩
/-- A journal whose disk is used by others. -/
theorem Jn.step {w w' : World} {O O' : Nat → Prop} {J B : Nat} {f : Int} {rv : Value} {rs : List (List UInt8)} {br : Bool} (h : Jn w J B f rv rs br) (k : Step O w w' O') (h1 : ¬ O J) (h2 : ∀ p, rv.ownBlock = some p → ¬ O p) :
    Jn w' J B f rv rs br ∧ ¬ O' J ∧ ∀ p, rv.ownBlock = some p → ¬ O' p := by
  have hk : ∀ i, i < w.heap.size → ¬ O i → ¬ O' i := fun i hi hn ho => by
    rcases k.sub i ho with h3 | h3
    · exact hn h3
    · omega
  exact ⟨h.keep (k.own.block J h.lt h1) (fun p hp => k.own.block p (h.own_lt p hp) (h2 p hp)), hk J h.lt h1, fun p hp => hk p (h.own_lt p hp) (h2 p hp)⟩

set_option maxRecDepth 100000 in
theorem q_new (w : World) : Calls Tryd.prog 10 #[] w fun e w' => ∃ B O, e = .returned (.pointer (some ⟨B, 0, none⟩)) ∧ QD w' O B (fun _ => []) ∧ Step (fun _ => False) w w' O :=
  (new_any w).mono fun _ _ h => let ⟨B, h1, O, h2, h3, h4⟩ := h; ⟨B, O, h1, ⟨newS, h2, qt_new, fun _ => rfl⟩, ⟨h3, h4⟩⟩
theorem q_size {w : World} {O : Nat → Prop} {B f : Nat} {F : Nat → List UInt8} (h : QD w O B F) (hf : f < 16) :
    Calls Tryd.prog 31 #[.pointer (some ⟨B, 0, none⟩), .int .i64 f] w fun e w' => e = .returned (.int .i64 ((F f).length : Nat)) ∧ w' = w := by
  obtain ⟨s, h1, h2, h3⟩ := h
  rw [← h3, fileL_len]
  exact size_yes O B f s w h1 hf
set_option maxRecDepth 100000 in
theorem q_read {w : World} {O : Nat → Prop} {B f n : Nat} {F : Nat → List UInt8} (h : QD w O B F) (hf : f < 16) (hn : n ≤ 9223372036854775807) :
    Calls Tryd.prog 30 #[.pointer (some ⟨B, 0, none⟩), .int .i64 f, .int .i64 0, .int .i64 n] w fun e w' => e = .returned (.tuple #[.string (S ((F f).take n)), .int .i64 0]) ∧ Fr w w' := by
  obtain ⟨s, h1, h2, h3⟩ := h
  refine (read_yes O B f 0 n (min n (s.sz f)) s w h1 h2.good.inv h2.down hf (by omega) (by omega) (by omega) (by unfold readN; omega)).mono ?_
  rintro e w' ⟨rfl, hf'⟩
  refine ⟨?_, hf'⟩
  have : bytesOf s f 0 (min n (s.sz f)) = (F f).take n := by
    rw [← h3]
    apply List.ext_getElem
    · rw [List.length_take, fileL_len]; simp [bytesOf]
    · intro i a b
      rw [List.getElem_take, fileL_get]; simp [bytesOf]
  rw [this]; rfl
set_option maxRecDepth 100000 in
theorem q_put {w : World} {O : Nat → Prop} {B f : Nat} {F : Nat → List UInt8} (h : QD w O B F) (hf : f < 16) (l : List UInt8) (hm : (F f).length + l.length ≤ 16777216) :
    Calls Tryd.prog 37 #[.pointer (some ⟨B, 0, none⟩), .int .i64 f, .int .i64 ((F f).length : Nat), .string (S l)] w fun e w' => ∃ O', e = .returned (.int .i64 0) ∧ QD w' O' B (put F f (F f ++ l)) ∧ Step O w w' O' := by
  obtain ⟨s, h1, h2, h3⟩ := h
  have hl : (F f).length = s.sz f := by rw [← h3, fileL_len]
  rw [hl] at hm ⊢
  refine (write_any O B f (s.sz f : Nat) (S l) l s w rfl h1 h2.good.inv (by have := h2.calls; omega) (by omega) (by omega)).mono ?_
  rintro e w' ⟨rfl, O', h4, h5, h6⟩
  refine ⟨O', ?_, ⟨_, h4, h2.write _ _ _, fun g => ?_⟩, ⟨h5, h6⟩⟩
  · rw [(q_write h2 f (s.sz f : Nat) l).2, chk_end hf hm]
  · rw [(q_write h2 f (s.sz f : Nat) l).1]
    by_cases hg : g = f
    · subst hg; rw [put_same, wr_file hf rfl hm, h3]
    · rw [put_other _ _ hg, wr_other hg, h3]
set_option maxRecDepth 100000 in
theorem q_open {w : World} {O : Nat → Prop} {B f : Nat} {F : Nat → List UInt8} (h : QD w O B F) (hf : f < 16) :
    Calls Tryd.prog 12 #[.pointer (some ⟨B, 0, none⟩), .int .i64 f] w fun e w' => ∃ J O' rs rest, Jm.Recs (F f) rs rest ∧ e = .returned (.tuple #[.pointer (some ⟨J, 0, none⟩), .int .i64 0]) ∧ QJ w' O' B J (put F f (Jm.forms rs)) f rs ∧ Step O w w' O' := by
  obtain ⟨s, h1, h2, h3⟩ := h
  have hs := q_sync h2 hf
  have hF : fileL (syncS s f) f = F f := by rw [hs.2, settle_file, h3]
  refine (jopen_any h1 h2.good hf).mono ?_
  intro e w' hp
  cases hp with
  | lost E hE h0 he hd => exact absurd (hE.symm.trans hs.1) h0
  | whole hE J rs hr he hd =>
    obtain ⟨O', g1, g2, g3⟩ := hd
    rw [hF] at hr
    refine ⟨J, O', rs, [], hr, he, ⟨_, g1, h2.sync hf, fun g => ?_⟩, ⟨g2, g3⟩⟩
    rw [hs.2, settle_file, h3]
    by_cases hg : g = f
    · subst hg; rw [put_same, hr.eq, List.append_nil]
    · rw [put_other _ _ hg]
  | torn hE rs rest hr h0 E hT h1' he hd =>
    have hle : (Jm.forms rs).length ≤ (syncS s f).sz f := by rw [← fileL_len, hr.eq, List.length_append]; omega
    exact absurd (hT.symm.trans (q_trunc (h2.sync hf) hf hle).1) h1'
  | cut hE J rs rest hr h0 hT he hd =>
    have hle : (Jm.forms rs).length ≤ (syncS s f).sz f := by rw [← fileL_len, hr.eq, List.length_append]; omega
    obtain ⟨O', g1, g2, g3⟩ := hd
    have hr' := hr
    rw [hF] at hr
    refine ⟨J, O', rs, rest, hr, he, ⟨_, g1, (h2.sync hf).trunc hf hle, fun g => ?_⟩, ⟨g2, g3⟩⟩
    rw [(q_trunc (h2.sync hf) hf hle).2]
    by_cases hg : g = f
    · subst hg; rw [put_same, cut_file hle, hr'.eq, List.take_left]
    · rw [put_other _ _ hg, cut_other hg, hs.2, settle_file, h3]
set_option maxRecDepth 100000 in
theorem q_append {w : World} {O : Nat → Prop} {B J f : Nat} {F : Nat → List UInt8} {rs : List (List UInt8)} (h : QJ w O B J F f rs) (hf : f < 16) (hF : F f = Jm.forms rs) (r : List UInt8) (hr : r.length ≤ 20000) (hm : (Jm.forms rs).length + (Jm.formE.f r).length ≤ 1048576) (ht : Tab w) :
    Calls Tryd.prog 16 #[.pointer (some ⟨J, 0, none⟩), .string (S r)] w fun e w' => ∃ O', e = .returned (.int .i64 0) ∧ QJ w' O' B J (put F f (Jm.forms (rs ++ [r]))) f (rs ++ [r]) ∧ Step O w w' O' := by
  obtain ⟨s, h1, h2, h3⟩ := h
  have hz : (Jm.forms rs).length = s.sz f := by rw [← hF, ← h3, fileL_len]
  have hE : writeE s f (Jm.forms rs).length (Jm.formE.f r) = 0 := by rw [(q_write h2 _ _ _).2, chk_end hf (by omega)]
  refine (append_go h1 h2.good r hr hm ht).mono ?_
  rintro e w' ⟨rfl, O', h4, h5, h6⟩
  rw [hE] at h4
  refine ⟨O', by rw [hE], ⟨_, h4, h2.write _ _ _, fun g => ?_⟩, ⟨h5, h6⟩⟩
  rw [(q_write h2 _ _ _).1]
  by_cases hg : g = f
  · subst hg; rw [put_same, wr_file hf hz (by omega), Jm.forms_snoc, h3, hF]
  · rw [put_other _ _ hg, wr_other hg, h3]
end Go.Proofs.YtjcajgcfkidbkaaDoor
