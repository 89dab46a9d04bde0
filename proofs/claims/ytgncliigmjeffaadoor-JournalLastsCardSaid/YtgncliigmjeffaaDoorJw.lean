/-
  States of the law JournalLasts: what each call of the disk and the journal does.
-/
import Derived.Test.YtgncliigmjeffaaDoorJv
namespace Go.Proofs.YtgncliigmjeffaaDoor
open Go.RowKit

theorem forms_max {rs : List (List UInt8)} (h : ∀ r ∈ rs, r.length ≤ 200) : (Jm.forms rs).length ≤ 251 * rs.length := by
  induction rs with
  | nil => simp [Jm.forms]
  | cons r rs ih =>
    have h1 := ih (fun x hx => h x (by simp [hx]))
    have h2 := h r (by simp)
    have h3 := Jm.form_len r (by omega)
    rw [Jm.forms_cons, List.length_append, List.length_cons]; omega
theorem strike_file {s : RS} (h : (strikeS s).down = false) (f : Nat) : fileL (strikeS s) f = fileL s f := by
  have := strike_up h
  exact fileL_congr (by rw [this.2.1]) (fun i _ => by rw [this.1])
theorem LA.sync {s : RS} {f : Nat} {all sure : List (List UInt8)} (h : LA s f all sure) : LA (syncS s f) f all sure := by
  unfold syncS
  split
  · exact h
  split
  · exact h.strike
  split
  · exact h.strike
  split
  · exact la_lost h.strike _ (by have := h.strike.good.lost; omega)
  · exact h.strike.settle.1
theorem LA.write {s : RS} {f : Nat} {all sure : List (List UInt8)} (h : LA s f all sure) (hf : f < 16) (he : fileL s f = Jm.forms all) (r : List UInt8) (hr : r.length ≤ 200) (hm : (Jm.forms all).length + (Jm.formE.f r).length ≤ 16777216) :
    LA (writeS s f (Jm.forms all).length (Jm.formE.f r)) f (all ++ [r]) sure ∧ (writeE s f (Jm.forms all).length (Jm.formE.f r) = 8 ∨ (writeE s f (Jm.forms all).length (Jm.formE.f r) = 0 ∧ fileL (writeS s f (Jm.forms all).length (Jm.formE.f r)) f = Jm.forms (all ++ [r]))) := by
  have hw := h.wr hf he r hr hm
  have hz : (Jm.forms all).length = s.sz f := by rw [← he, fileL_len]
  unfold writeS writeE
  cases hd : s.down with
  | true => exact ⟨h.more r hr, .inl rfl⟩
  | false =>
    rw [if_neg Bool.false_ne_true, if_neg Bool.false_ne_true]
    refine ⟨hw.1.strike, ?_⟩
    cases hd2 : (strikeS (wrS s f (Jm.forms all).length (Jm.formE.f r))).down with
    | true => exact .inl rfl
    | false => exact .inr ⟨by rw [if_neg Bool.false_ne_true]; exact chk_end hf hm, (strike_file hd2 f).trans hw.2⟩
/-- What Sync and Truncate of a file return. -/
theorem sync_err {s : RS} {f : Nat} (hf : f < 16) : syncE s f = 0 ∨ syncE s f = 8 ∨ syncE s f = 9 := by
  have hf' : ¬ ¬ isF (f : Int) := fun h => h ⟨by omega, by omega⟩
  unfold syncE
  split
  · exact .inr (.inl rfl)
  split
  · exact .inr (.inl rfl)
  split
  · exact .inr (.inr rfl)
  · exact .inl rfl
theorem sync_zero {s : RS} {f : Nat} (h : syncE s f = 0) : syncS s f = settleS (strikeS s) f ∧ (strikeS s).down = false := by
  unfold syncE at h
  unfold syncS
  split at h
  · exact absurd h (by decide)
  rename_i h1
  split at h
  · exact absurd h (by decide)
  rename_i h2
  split at h
  · exact absurd h (by decide)
  rename_i h3
  split at h
  · exact absurd h (by decide)
  rename_i h4
  rw [if_neg h1, if_neg h2, if_neg h3, if_neg h4]
  exact ⟨rfl, by simpa using h2⟩
theorem trunc_cases {s : RS} {f n : Nat} (hf : f < 16) (hn : n ≤ s.sz f) : (truncE s f n = 8 ∧ (truncS s f n = s ∨ truncS s f n = strikeS s)) ∨ (truncE s f n = 0 ∧ (strikeS s).down = false ∧ truncS s f n = cutS (settleS (strikeS s) f) f n) := by
  unfold truncE truncS
  split
  · exact .inl ⟨rfl, .inl rfl⟩
  split
  · exact .inl ⟨rfl, .inr rfl⟩
  rename_i h1 h2
  have hd : (strikeS s).down = false := by simpa using h2
  have h3 : ¬ ¬ (isF f ∧ (0 : Int) ≤ n ∧ (n : Int) ≤ ((strikeS s).sz (f : Int).toNat : Nat)) := by
    unfold isF
    rw [show ((f : Int)).toNat = f from rfl, (strike_up hd).2.1]; omega
  rw [if_neg h3, if_neg h3]
  exact .inr ⟨rfl, hd, rfl⟩
theorem cut_dur {s : RS} {f n : Nat} : durL (cutS (settleS s f) f n) f = fileL (cutS (settleS s f) f n) f := by
  refine durL_ext ?_ (fun i hi => ?_)
  · rw [fileL_len]; show (if f = f then n else _) = (if f = f then n else _); rw [if_pos rfl, if_pos rfl]
  · rw [fileL_get]
    show (if f = f then (if n ≤ i then 0 else s.now f i) else _) = (if f = f ∧ n ≤ i then 0 else s.now f i)
    rw [if_pos rfl]
    by_cases c : n ≤ i
    · rw [if_pos c, if_pos ⟨rfl, c⟩]
    · rw [if_neg c, if_neg (fun h => c h.2)]

/-- A disk with a journal of file 3. -/
structure LJAt (w : World) (O : Nat → Prop) (B J : Nat) (rs : List (List UInt8)) (br : Bool) (all sure : List (List UInt8)) (n : Nat) (s : RS) : Prop where
  la : LA s 3 all sure
  jd : JD w O B J s 3 rs br
  file : br = false → rs = all ∧ fileL s 3 = Jm.forms all
  cnt : rs.length ≤ n
  cntA : all.length ≤ n
  small : Jm.Small sure
def LJ (w : World) (O : Nat → Prop) (B J : Nat) (rs : List (List UInt8)) (br : Bool) (all sure : List (List UInt8)) (n : Nat) : Prop := ∃ s, LJAt w O B J rs br all sure n s
/-- A disk with none. -/
def LD (w : World) (O : Nat → Prop) (B : Nat) (all sure : List (List UInt8)) (n : Nat) : Prop := ∃ s, LA s 3 all sure ∧ Dk w O B s ∧ all.length ≤ n ∧ Jm.Small sure
def LO (w : World) (O : Nat → Prop) (B : Nat) (jv : Value) (all sure : List (List UInt8)) (n : Nat) : Prop := (jv = .pointer none ∧ LD w O B all sure n) ∨ ∃ J rs br, jv = .pointer (some ⟨J, 0, none⟩) ∧ LJ w O B J rs br all sure n
theorem LJ.fr {w w' : World} {O : Nat → Prop} {B J n : Nat} {rs all sure : List (List UInt8)} {br : Bool} (h : LJ w O B J rs br all sure n) (hf : Fr w w') : LJ w' O B J rs br all sure n := let ⟨s, h1⟩ := h; ⟨s, h1.la, h1.jd.fr hf, h1.file, h1.cnt, h1.cntA, h1.small⟩
theorem LD.fr {w w' : World} {O : Nat → Prop} {B n : Nat} {all sure : List (List UInt8)} (h : LD w O B all sure n) (hf : Fr w w') : LD w' O B all sure n := let ⟨s, h1, h2, h3⟩ := h; ⟨s, h1, h2.fr hf, h3⟩
theorem LO.fr {w w' : World} {O : Nat → Prop} {B n : Nat} {jv : Value} {all sure : List (List UInt8)} (h : LO w O B jv all sure n) (hf : Fr w w') : LO w' O B jv all sure n := by
  rcases h with ⟨h1, h⟩ | ⟨J, rs, br, h1, h⟩
  · exact .inl ⟨h1, h.fr hf⟩
  · exact .inr ⟨J, rs, br, h1, h.fr hf⟩
theorem LJ.mono {w : World} {O : Nat → Prop} {B J n n' : Nat} {rs all sure : List (List UInt8)} {br : Bool} (h : LJ w O B J rs br all sure n) (hn : n ≤ n') : LJ w O B J rs br all sure n' := let ⟨s, h1⟩ := h; ⟨s, h1.la, h1.jd, h1.file, Nat.le_trans h1.cnt hn, Nat.le_trans h1.cntA hn, h1.small⟩
theorem LO.mono {w : World} {O : Nat → Prop} {B n n' : Nat} {jv : Value} {all sure : List (List UInt8)} (h : LO w O B jv all sure n) (hn : n ≤ n') : LO w O B jv all sure n' := by
  rcases h with ⟨h1, s, h2, h3, h4, h5⟩ | ⟨J, rs, br, h1, h⟩
  · exact .inl ⟨h1, s, h2, h3, Nat.le_trans h4 hn, h5⟩
  · exact .inr ⟨J, rs, br, h1, h.mono hn⟩
theorem LJ.jn {w : World} {O : Nat → Prop} {B J n : Nat} {rs all sure : List (List UInt8)} {br : Bool} (h : LJ w O B J rs br all sure n) : ∃ rv, Jn w J B 3 rv rs br := let ⟨_, h1⟩ := h; let ⟨_, rv, h2⟩ := h1.jd; ⟨rv, h2.jn⟩
theorem LJ.bound {w : World} {O : Nat → Prop} {B J n : Nat} {rs all sure : List (List UInt8)} {br : Bool} (h : LJ w O B J rs br all sure n) : ∀ k, O k → k < w.heap.size := let ⟨_, h1⟩ := h; let ⟨_, _, h2⟩ := h1.jd; h2.bound
theorem LJ.cnt {w : World} {O : Nat → Prop} {B J n : Nat} {rs all sure : List (List UInt8)} {br : Bool} (h : LJ w O B J rs br all sure n) : rs.length ≤ n ∧ all.length ≤ n := let ⟨_, h1⟩ := h; ⟨h1.cnt, h1.cntA⟩

theorem lj_append {w : World} {O : Nat → Prop} {B J n : Nat} {rs all sure : List (List UInt8)} {br : Bool} (h : LJ w O B J rs br all sure n) (r : List UInt8) (hr : r.length ≤ 200) (hn : n ≤ 100) (ht : Tab w) :
    Calls Tryd.prog 16 #[.pointer (some ⟨J, 0, none⟩), .string (S r)] w fun e w' => ∃ E O', e = .returned (.int .i64 E) ∧ Step O w w' O' ∧
      ((E = 0 ∧ LJ w' O' B J (rs ++ [r]) false (all ++ [r]) sure (n + 1)) ∨ (E = 8 ∧ LJ w' O' B J rs true (all ++ [r]) sure (n + 1)) ∨ (E = 7 ∧ LJ w' O' B J rs true all sure n)) := by
  obtain ⟨s, hs⟩ := h
  cases br with
  | true =>
    obtain ⟨Od, rv, hj⟩ := id hs.jd
    refine (append_broken hj.jn (S r)).mono ?_
    rintro e w' ⟨rfl, rfl⟩
    exact ⟨7, O, rfl, .fr (Fr.refl _), .inr (.inr ⟨rfl, s, hs⟩)⟩
  | false =>
    obtain ⟨rfl, hfl⟩ := hs.file rfl
    have hm := forms_max hs.la.ok
    have hc := hs.cnt
    have hfm := Jm.form_len r (by omega)
    have hw := hs.la.write (by decide) hfl r hr (by omega)
    refine (append_go hs.jd hs.la.good r (by omega) (by omega) ht).mono ?_
    rintro e w' ⟨rfl, hp⟩
    obtain ⟨O', h1, h2⟩ := hp.step
    rcases hw.2 with h8 | ⟨h0, hf0⟩
    · rw [show writeE s 3 (Jm.forms rs).length (Jm.formE.f r) = 8 from h8] at h1 ⊢
      refine ⟨8, O', rfl, h2, .inr (.inl ⟨rfl, _, hw.1, h1, fun h => by simp at h, ?_, ?_, hs.small⟩)⟩
      · show (appL 8 rs r).length ≤ n + 1
        exact Nat.le_succ_of_le hc
      · rw [List.length_append, List.length_singleton]; omega
    · rw [show writeE s 3 (Jm.forms rs).length (Jm.formE.f r) = 0 from h0] at h1 ⊢
      refine ⟨0, O', rfl, h2, .inl ⟨rfl, _, hw.1, h1, fun _ => ⟨rfl, hf0⟩, ?_, ?_, hs.small⟩⟩ <;> (rw [List.length_append, List.length_singleton]; omega)
theorem lj_sync {w : World} {O : Nat → Prop} {B J n : Nat} {rs all sure : List (List UInt8)} {br : Bool} (h : LJ w O B J rs br all sure n) :
    Calls Tryd.prog 18 #[.pointer (some ⟨J, 0, none⟩)] w fun e w' => ∃ E O', e = .returned (.int .i64 E) ∧ Step O w w' O' ∧ ((E = 0 ∧ LJ w' O' B J rs false all rs n) ∨ (E ≠ 0 ∧ LJ w' O' B J rs true all sure n)) := by
  obtain ⟨s, hs⟩ := h
  cases br with
  | true =>
    obtain ⟨Od, rv, hj⟩ := id hs.jd
    refine (jsync_broken hj.jn).mono ?_
    rintro e w' ⟨rfl, rfl⟩
    exact ⟨7, O, rfl, .fr (Fr.refl _), .inr ⟨by decide, s, hs⟩⟩
  | false =>
    obtain ⟨rfl, hfl⟩ := hs.file rfl
    refine (jsync_go hs.jd hs.la.good).mono ?_
    rintro e w' ⟨rfl, hp⟩
    obtain ⟨O', h1, h2⟩ := hp.step
    by_cases hE : syncE s 3 = 0
    · obtain ⟨e1, e2⟩ := sync_zero (f := 3) hE
      have hst := hs.la.strike.settle
      rw [show syncS s 3 = settleS (strikeS s) 3 from e1, hE] at h1
      rw [hE]
      have hff : fileL (settleS (strikeS s) 3) 3 = Jm.forms rs := (settle_file _ _ _).trans ((strike_file e2 3).trans hfl)
      exact ⟨0, O', rfl, h2, .inl ⟨rfl, _, LA.exact hst.1.good hff (hst.2.trans hff) hs.la.ok, h1, fun _ => ⟨rfl, hff⟩, hs.cnt, hs.cnt, fun x hx => by have := hs.la.ok x hx; omega⟩⟩
    · have hEb : (syncE s 3 != 0) = true := bne_iff_ne.2 hE
      rw [hEb] at h1
      exact ⟨_, O', rfl, h2, .inr ⟨hE, _, hs.la.sync, h1, fun h => by simp at h, hs.cnt, hs.cntA, hs.small⟩⟩
theorem jd_op {w : World} {O : Nat → Prop} {B J : Nat} {s s' : RS} {f : Int} {rs : List (List UInt8)} {br : Bool} {fn : FuncId} {args : Array Value} {r : Ending} (h : JD w O B J s f rs br)
    (hc : ∀ Od, Dk w Od B s → (∀ k, Od k → O k) → Calls Tryd.prog fn args w fun e w' => e = r ∧ DkP Od w w' B s') :
    Calls Tryd.prog fn args w fun e w' => e = r ∧ ∃ O', JD w' O' B J s' f rs br ∧ Step O w w' O' := by
  obtain ⟨Od, rv, hj⟩ := h
  refine (hc Od hj.dk hj.sub).mono ?_
  rintro e w' ⟨rfl, hp⟩
  obtain ⟨Od', h1, h2, h3⟩ := hj.disk hp
  exact ⟨rfl, _, ⟨Od', rv, h1⟩, ⟨h2, h3⟩⟩
theorem lo_lose {w : World} {O : Nat → Prop} {B n : Nat} {jv : Value} {all sure : List (List UInt8)} (h : LO w O B jv all sure n) (k : Int) (hk : k ≤ 9223372036854775807) :
    Calls Tryd.prog 20 #[.pointer (some ⟨B, 0, none⟩), .int .i64 k] w fun e w' => ∃ O', e = .returned (.tuple #[]) ∧ Step O w w' O' ∧ LO w' O' B jv all sure n := by
  rcases h with ⟨rfl, s, h1, h2, h3, h4⟩ | ⟨J, rs, br, rfl, s, h⟩
  · refine (lose_any O B k s w h2).mono ?_
    rintro e w' ⟨rfl, O', g1, g2, g3⟩
    exact ⟨O', rfl, ⟨g2, g3⟩, .inl ⟨rfl, _, la_lost h1 _ (by omega), g1, h3, h4⟩⟩
  · refine (jd_op h.jd (fun Od hd _ => lose_any Od B k s w hd)).mono ?_
    rintro e w' ⟨rfl, O', g1, g2⟩
    exact ⟨O', rfl, g2, .inr ⟨J, rs, br, rfl, _, la_lost h.la _ (by omega), g1, h.file, h.cnt, h.cntA, h.small⟩⟩
theorem lo_arm {w : World} {O : Nat → Prop} {B n : Nat} {jv : Value} {all sure : List (List UInt8)} (h : LO w O B jv all sure n) (k : Int) (hk : k ≤ 9223372036854775807) (v : Value) (ks : List Int) (hks : Ints w v ks) (hkl : ks.length ≤ 60) :
    Calls Tryd.prog 22 #[.pointer (some ⟨B, 0, none⟩), .int .i64 k, v] w fun e w' => ∃ O', e = .returned (.tuple #[]) ∧ Step O w w' O' ∧ LO w' O' B jv all sure n := by
  rcases h with ⟨rfl, s, h1, h2, h3, h4⟩ | ⟨J, rs, br, rfl, s, h⟩
  · refine (arm_any O B k v ks s w h2 hks (by omega)).mono ?_
    rintro e w' ⟨rfl, O', g1, g2, g3⟩
    exact ⟨O', rfl, ⟨g2, g3⟩, .inl ⟨rfl, _, la_arm h1 _ hk ks hkl, g1, h3, h4⟩⟩
  · refine (jd_op h.jd (fun Od hd _ => arm_any Od B k v ks s w hd hks (by omega))).mono ?_
    rintro e w' ⟨rfl, O', g1, g2⟩
    exact ⟨O', rfl, g2, .inr ⟨J, rs, br, rfl, _, la_arm h.la _ hk ks hkl, g1, h.file, h.cnt, h.cntA, h.small⟩⟩
/-- What is left of it for a crash, or a start: the disk alone. -/
theorem LO.disk {w : World} {O : Nat → Prop} {B n : Nat} {jv : Value} {all sure : List (List UInt8)} (h : LO w O B jv all sure n) : ∃ Od s, LA s 3 all sure ∧ Dk w Od B s ∧ (∀ k, Od k → O k) ∧ all.length ≤ n ∧ Jm.Small sure := by
  rcases h with ⟨rfl, s, h1, h2, h3, h4⟩ | ⟨J, rs, br, rfl, s, h⟩
  · exact ⟨O, s, h1, h2, fun _ h => h, h3, h4⟩
  · obtain ⟨Od, rv, hj⟩ := h.jd
    exact ⟨Od, s, h.la, hj.dk, hj.sub, h.cntA, h.small⟩
/-- Open, after which the list begins with what was sure, and is a beginning of what was there. -/
theorem la_open {w : World} {O : Nat → Prop} {B n : Nat} {s : RS} {all sure : List (List UInt8)} (h : Dk w O B s) (hl : LA s 3 all sure) (hn : all.length ≤ n) (hsm : Jm.Small sure) :
    Calls Tryd.prog 12 #[.pointer (some ⟨B, 0, none⟩), .int .i64 3] w fun e w' => ∃ O', Step O w w' O' ∧
      ((∃ E : Int, (E = 8 ∨ E = 9) ∧ e = .returned (.tuple #[.pointer none, .int .i64 E]) ∧ LD w' O' B all sure n ∧ ¬ (s.down = false ∧ s.calls = 0 ∧ s.lost = 0)) ∨
       (∃ J qs, e = .returned (.tuple #[.pointer (some ⟨J, 0, none⟩), .int .i64 0]) ∧ (∃ ps, all = qs ++ ps) ∧ (∃ ps, qs = sure ++ ps) ∧ LJ w' O' B J qs false qs qs n)) := by
  have hqt : s.down = false ∧ s.calls = 0 ∧ s.lost = 0 → Qt s := fun ⟨h1, h2, h3⟩ => ⟨hl.good, h1, h2, h3⟩
  refine (jopen_any h hl.good (by decide)).mono ?_
  intro e w' hp
  cases hp with
  | lost E hE h0 he hd =>
    obtain ⟨O', g1, g2, g3⟩ := hd
    refine ⟨O', ⟨g2, g3⟩, .inl ⟨E, ?_, he, ⟨_, hl.sync, g1, hn, hsm⟩, fun hq => h0 (hE.symm.trans (q_sync (hqt hq) (by decide)).1)⟩⟩
    rcases sync_err (s := s) (f := 3) (by decide) with h1 | h1 | h1
    · exact absurd (hE.symm.trans h1) h0
    · exact .inl (hE.symm.trans h1)
    · exact .inr (hE.symm.trans h1)
  | whole hE J qs hr he hd =>
    obtain ⟨O', g1, g2, g3⟩ := hd
    obtain ⟨p1, p2⟩ := hl.sync.recs hsm hr
    obtain ⟨e1, e2⟩ := sync_zero (f := 3) hE
    have hst := hl.strike.settle
    have hff : fileL (syncS s 3) 3 = Jm.forms qs := by have e := hr.eq; rw [List.append_nil] at e; exact e
    have hdd : durL (syncS s 3) 3 = fileL (syncS s 3) 3 := by rw [show syncS s 3 = settleS (strikeS s) 3 from e1]; exact hst.2
    have hle : qs.length ≤ n := by obtain ⟨ps, e⟩ := p1; rw [e, List.length_append] at hn; omega
    have hok : ∀ r ∈ qs, r.length ≤ 200 := fun r hr => hl.ok r (by obtain ⟨ps, e⟩ := p1; rw [e]; simp [hr])
    exact ⟨O', ⟨g2, g3⟩, .inr ⟨J, qs, he, p1, p2, _, LA.exact hl.sync.good hff (hdd.trans hff) hok, g1, fun _ => ⟨rfl, hff⟩, hle, hle, hr.small⟩⟩
  | torn hE qs rest hr h0 E hT h1' he hd =>
    have hle : (Jm.forms qs).length ≤ (syncS s 3).sz 3 := by rw [← fileL_len, show syncS s 3 = syncS s (3 : Nat) from rfl, hr.eq, List.length_append]; omega
    obtain ⟨O', g1, g2, g3⟩ := hd
    have hq : ¬ (s.down = false ∧ s.calls = 0 ∧ s.lost = 0) := fun hq => h1' (hT.symm.trans (q_trunc ((hqt hq).sync (by decide)) (by decide) hle).1)
    rcases trunc_cases (f := 3) (by decide) hle with ⟨h2, h3⟩ | ⟨h2, _⟩
    · refine ⟨O', ⟨g2, g3⟩, .inl ⟨E, .inl (hT.symm.trans h2), he, ⟨_, ?_, g1, hn, hsm⟩, hq⟩⟩
      rcases h3 with h3 | h3
      · rw [show truncS (syncS s (3 : Nat)) (3 : Nat) ((Jm.forms qs).length : Nat) = syncS s 3 from h3]; exact hl.sync
      · rw [show truncS (syncS s (3 : Nat)) (3 : Nat) ((Jm.forms qs).length : Nat) = strikeS (syncS s 3) from h3]; exact hl.sync.strike
    · exact absurd (hT.symm.trans h2) h1'
  | cut hE J qs rest hr h0 hT he hd =>
    have hle : (Jm.forms qs).length ≤ (syncS s 3).sz 3 := by rw [← fileL_len, show syncS s 3 = syncS s (3 : Nat) from rfl, hr.eq, List.length_append]; omega
    obtain ⟨O', g1, g2, g3⟩ := hd
    obtain ⟨p1, p2⟩ := hl.sync.recs hsm hr
    have hlen : qs.length ≤ n := by obtain ⟨ps, e⟩ := p1; rw [e, List.length_append] at hn; omega
    have hok : ∀ r ∈ qs, r.length ≤ 200 := fun r hr => hl.ok r (by obtain ⟨ps, e⟩ := p1; rw [e]; simp [hr])
    rcases trunc_cases (f := 3) (by decide) hle with ⟨h2, _⟩ | ⟨_, h2, h3⟩
    · rw [show truncE (syncS s (3 : Nat)) (3 : Nat) ((Jm.forms qs).length : Nat) = 8 from h2] at hT; exact absurd hT (by decide)
    · have h3' : truncS (syncS s (3 : Nat)) (3 : Nat) ((Jm.forms qs).length : Nat) = cutS (settleS (strikeS (syncS s 3)) 3) 3 (Jm.forms qs).length := h3
      have hle2 : (Jm.forms qs).length ≤ (strikeS (syncS s 3)).sz 3 := by rw [(strike_up h2).2.1]; exact hle
      have hff : fileL (cutS (settleS (strikeS (syncS s 3)) 3) 3 (Jm.forms qs).length) 3 = Jm.forms qs := by
        rw [cut_file hle2, strike_file h2, show syncS s 3 = syncS s (3 : Nat) from rfl, hr.eq, List.take_left]
      have hg : Good (cutS (settleS (strikeS (syncS s 3)) 3) 3 (Jm.forms qs).length) := by rw [← h3']; exact good_trunc hl.sync.good _ _
      rw [h3'] at g1
      exact ⟨O', ⟨g2, g3⟩, .inr ⟨J, qs, he, p1, p2, _, LA.exact hg hff (cut_dur.trans hff) hok, g1, fun _ => ⟨rfl, hff⟩, hlen, hlen, hr.small⟩⟩
end Go.Proofs.YtgncliigmjeffaaDoor
