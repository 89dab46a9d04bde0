/-
  States of the law JournalStays: a disk with a journal (SJ), with one that is durable (SH), with none (SD).
-/
import Derived.Test.YtgncliigmjeffaaDoorJt
namespace Go.Proofs.YtgncliigmjeffaaDoor
open Go.RowKit

structure SJAt (w : World) (O : Nat → Prop) (B J : Nat) (rs : List (List UInt8)) (br : Bool) (z : Nat) (s : RS) : Prop where
  up : Up s 0 z
  jd : JD w O B J s 0 rs br
  file : br = false → fileL s 0 = Jm.forms rs
  len : (Jm.forms rs).length ≤ z
  small : Jm.Small rs
def SJ (w : World) (O : Nat → Prop) (B J : Nat) (rs : List (List UInt8)) (br : Bool) (z : Nat) : Prop := ∃ s, SJAt w O B J rs br z s
/-- Durable. -/
def SH (w : World) (O : Nat → Prop) (B J : Nat) (rs : List (List UInt8)) (z : Nat) : Prop := ∃ s, SJAt w O B J rs false z s ∧ Held s 0 (s.now 0) (s.sz 0)
def SD (w : World) (O : Nat → Prop) (B : Nat) (z : Nat) : Prop := ∃ s, Up s 0 z ∧ Dk w O B s
theorem SH.sj {w : World} {O : Nat → Prop} {B J z : Nat} {rs : List (List UInt8)} (h : SH w O B J rs z) : SJ w O B J rs false z := let ⟨s, h1, _⟩ := h; ⟨s, h1⟩
theorem SJ.jn {w : World} {O : Nat → Prop} {B J z : Nat} {rs : List (List UInt8)} {br : Bool} (h : SJ w O B J rs br z) : ∃ rv, Jn w J B 0 rv rs br := let ⟨_, h1⟩ := h; let ⟨_, rv, h2⟩ := h1.jd; ⟨rv, h2.jn⟩
theorem SJ.fr {w w' : World} {O : Nat → Prop} {B J z : Nat} {rs : List (List UInt8)} {br : Bool} (h : SJ w O B J rs br z) (hf : Fr w w') : SJ w' O B J rs br z := let ⟨s, h1⟩ := h; ⟨s, h1.up, h1.jd.fr hf, h1.file, h1.len, h1.small⟩
theorem SH.fr {w w' : World} {O : Nat → Prop} {B J z : Nat} {rs : List (List UInt8)} (h : SH w O B J rs z) (hf : Fr w w') : SH w' O B J rs z := let ⟨s, h1, h2⟩ := h; ⟨s, ⟨h1.up, h1.jd.fr hf, h1.file, h1.len, h1.small⟩, h2⟩
theorem SD.fr {w w' : World} {O : Nat → Prop} {B z : Nat} (h : SD w O B z) (hf : Fr w w') : SD w' O B z := let ⟨s, h1, h2⟩ := h; ⟨s, h1, h2.fr hf⟩
theorem SJ.mono {w : World} {O : Nat → Prop} {B J z z' : Nat} {rs : List (List UInt8)} {br : Bool} (h : SJ w O B J rs br z) (hz : z ≤ z') : SJ w O B J rs br z' := let ⟨s, h1⟩ := h; ⟨s, h1.up.mono hz, h1.jd, h1.file, Nat.le_trans h1.len hz, h1.small⟩
theorem SD.mono {w : World} {O : Nat → Prop} {B z z' : Nat} (h : SD w O B z) (hz : z ≤ z') : SD w O B z' := let ⟨s, h1, h2⟩ := h; ⟨s, h1.mono hz, h2⟩
theorem SJ.sd {w : World} {O : Nat → Prop} {B J z : Nat} {rs : List (List UInt8)} {br : Bool} (h : SJ w O B J rs br z) : ∃ Od, SD w Od B z ∧ ∀ k, Od k → O k :=
  let ⟨s, h1⟩ := h; let ⟨Od, _, h2⟩ := h1.jd; ⟨Od, ⟨s, h1.up, h2.dk⟩, h2.sub⟩
theorem JDP.step {O : Nat → Prop} {w w' : World} {B J : Nat} {s : RS} {f : Int} {rs : List (List UInt8)} {br : Bool} (h : JDP O w w' B J s f rs br) : ∃ O', JD w' O' B J s f rs br ∧ Step O w w' O' :=
  let ⟨O', h1, h2, h3⟩ := h; ⟨O', h1, ⟨h2, h3⟩⟩

theorem sj_append {w : World} {O : Nat → Prop} {B J z : Nat} {rs : List (List UInt8)} {br : Bool} (h : SJ w O B J rs br z) (r : List UInt8) (hr : r.length ≤ 200) (hz : z + 251 ≤ 1048576) (ht : Tab w) :
    Calls Tryd.prog 16 #[.pointer (some ⟨J, 0, none⟩), .string (S r)] w fun e w' => ∃ E O', e = .returned (.int .i64 E) ∧ Step O w w' O' ∧ ((E = 0 ∧ br = false ∧ SJ w' O' B J (rs ++ [r]) false (z + 251)) ∨ (E = 7 ∧ br = true ∧ SJ w' O' B J rs true z)) := by
  obtain ⟨s, hs⟩ := h
  cases br with
  | true =>
    obtain ⟨Od, rv, hj⟩ := id hs.jd
    refine (append_broken hj.jn (S r)).mono ?_
    rintro e w' ⟨rfl, rfl⟩
    exact ⟨7, O, rfl, .fr (Fr.refl _), .inr ⟨rfl, rfl, s, hs⟩⟩
  | false =>
    have hfl := hs.file rfl
    have hL : (Jm.forms rs).length = s.sz 0 := by rw [← hfl, fileL_len]
    have hfm := Jm.form_len r (by omega)
    have hlen := hs.len
    have hu := hs.up.write (f := 0) (by decide) (l := Jm.formE.f r) hL (by omega)
    refine (append_go hs.jd hs.up.good r (by omega) (by omega) ht).mono ?_
    rintro e w' ⟨rfl, hp⟩
    rw [show writeE s 0 (Jm.forms rs).length (Jm.formE.f r) = 0 from hu.2.1] at hp ⊢
    obtain ⟨O', h1, h2⟩ := hp.step
    refine ⟨0, O', rfl, h2, .inl ⟨rfl, rfl, _, hu.1.mono (by omega), h1, fun _ => ?_, ?_, ?_⟩⟩
    · exact hu.2.2.trans (by rw [hfl, Jm.forms_snoc])
    · rw [Jm.forms_snoc, List.length_append]; omega
    · intro x hx
      rcases List.mem_append.1 hx with hx | hx
      · exact hs.small x hx
      · rw [List.mem_singleton.1 hx]; omega
theorem sj_sync {w : World} {O : Nat → Prop} {B J z : Nat} {rs : List (List UInt8)} {br : Bool} (h : SJ w O B J rs br z) :
    Calls Tryd.prog 18 #[.pointer (some ⟨J, 0, none⟩)] w fun e w' => ∃ E O', e = .returned (.int .i64 E) ∧ Step O w w' O' ∧ ((E = 0 ∧ br = false ∧ SH w' O' B J rs z) ∨ (E ≠ 0 ∧ SJ w' O' B J rs true z)) := by
  obtain ⟨s, hs⟩ := h
  cases br with
  | true =>
    obtain ⟨Od, rv, hj⟩ := id hs.jd
    refine (jsync_broken hj.jn).mono ?_
    rintro e w' ⟨rfl, rfl⟩
    exact ⟨7, O, rfl, .fr (Fr.refl _), .inr ⟨by decide, s, hs⟩⟩
  | false =>
    have hy := hs.up.sync (f := 0) (by decide)
    refine (jsync_go hs.jd hs.up.good).mono ?_
    rintro e w' ⟨rfl, hp⟩
    obtain ⟨O', h1, h2⟩ := hp.step
    rcases u_sync hs.up (f := 0) (by decide) with ⟨_, h3, _⟩ | ⟨_, h3, _⟩
    · rw [show syncE s 0 = 9 from h3] at h1 ⊢
      exact ⟨9, O', rfl, h2, .inr ⟨by decide, _, hy.1, h1, fun h => by simp at h, hs.len, hs.small⟩⟩
    · obtain ⟨_, ⟨fn, e1, _, h4⟩, _⟩ := sync_ok h3
      obtain rfl : 0 = fn := by omega
      rw [show syncE s 0 = 0 from h3] at h1 ⊢
      exact ⟨0, O', rfl, h2, .inl ⟨rfl, rfl, _, ⟨hy.1, h1, fun _ => (hy.2 0).trans (hs.file rfl), hs.len, hs.small⟩, ⟨fun i => rfl, rfl, h4.dz.trans h4.sz.symm, h4.pd⟩⟩⟩
theorem jd_lose {w : World} {O : Nat → Prop} {B J : Nat} {s : RS} {f : Int} {rs : List (List UInt8)} {br : Bool} (h : JD w O B J s f rs br) (n : Int) :
    Calls Tryd.prog 20 #[.pointer (some ⟨B, 0, none⟩), .int .i64 n] w fun e w' => e = .returned (.tuple #[]) ∧ ∃ O', JD w' O' B J { s with lost := n.toNat } f rs br ∧ Step O w w' O' := by
  obtain ⟨Od, rv, hj⟩ := h
  refine (lose_any Od B n s w hj.dk).mono ?_
  rintro e w' ⟨rfl, hp⟩
  obtain ⟨Od', h1, h2, h3⟩ := hj.disk hp
  exact ⟨rfl, _, ⟨Od', rv, h1⟩, ⟨h2, h3⟩⟩
theorem Up.lose {s : RS} {f z : Nat} (h : Up s f z) (n : Nat) (hn : n ≤ 9223372036854775807) : Up { s with lost := n } f z := ⟨good_lost h.good n hn, h.down, h.calls, h.sz⟩
theorem sj_lose {w : World} {O : Nat → Prop} {B J z : Nat} {rs : List (List UInt8)} {br : Bool} (h : SJ w O B J rs br z) (n : Int) (hn : n ≤ 9223372036854775807) :
    Calls Tryd.prog 20 #[.pointer (some ⟨B, 0, none⟩), .int .i64 n] w fun e w' => ∃ O', e = .returned (.tuple #[]) ∧ Step O w w' O' ∧ SJ w' O' B J rs br z := by
  obtain ⟨s, hs⟩ := h
  refine (jd_lose hs.jd n).mono ?_
  rintro e w' ⟨rfl, O', h1, h2⟩
  exact ⟨O', rfl, h2, _, hs.up.lose _ (by omega), h1, hs.file, hs.len, hs.small⟩
/-- No sync is lost any more. -/
def SQ (w : World) (O : Nat → Prop) (B J : Nat) (rs : List (List UInt8)) (z : Nat) : Prop := ∃ s, (SJAt w O B J rs false z s ∧ Held s 0 (s.now 0) (s.sz 0)) ∧ s.lost = 0
theorem SQ.fr {w w' : World} {O : Nat → Prop} {B J z : Nat} {rs : List (List UInt8)} (h : SQ w O B J rs z) (hf : Fr w w') : SQ w' O B J rs z := let ⟨s, ⟨h1, h2⟩, h3⟩ := h; ⟨s, ⟨⟨h1.up, h1.jd.fr hf, h1.file, h1.len, h1.small⟩, h2⟩, h3⟩
theorem SQ.sj {w : World} {O : Nat → Prop} {B J z : Nat} {rs : List (List UInt8)} (h : SQ w O B J rs z) : SJ w O B J rs false z := let ⟨s, ⟨h1, _⟩, _⟩ := h; ⟨s, h1⟩
theorem sh_lose {w : World} {O : Nat → Prop} {B J z : Nat} {rs : List (List UInt8)} (h : SH w O B J rs z) :
    Calls Tryd.prog 20 #[.pointer (some ⟨B, 0, none⟩), .int .i64 0] w fun e w' => ∃ O', e = .returned (.tuple #[]) ∧ Step O w w' O' ∧ SQ w' O' B J rs z := by
  obtain ⟨s, hs, hh⟩ := h
  refine (jd_lose hs.jd 0).mono ?_
  rintro e w' ⟨rfl, O', h1, h2⟩
  exact ⟨O', rfl, h2, _, ⟨⟨hs.up.lose 0 (by omega), h1, hs.file, hs.len, hs.small⟩, ⟨hh.now, hh.sz, hh.dz, hh.pd⟩⟩, rfl⟩
theorem sd_lose {w : World} {O : Nat → Prop} {B z : Nat} (h : SD w O B z) (n : Int) (hn : n ≤ 9223372036854775807) :
    Calls Tryd.prog 20 #[.pointer (some ⟨B, 0, none⟩), .int .i64 n] w fun e w' => ∃ O', e = .returned (.tuple #[]) ∧ Step O w w' O' ∧ SD w' O' B z := by
  obtain ⟨s, hs, hd⟩ := h
  refine (lose_any O B n s w hd).mono ?_
  rintro e w' ⟨rfl, O', h1, h2, h3⟩
  exact ⟨O', rfl, ⟨h2, h3⟩, _, hs.lose _ (by omega), h1⟩
/-- Down, before Start. -/
def SX (w : World) (O : Nat → Prop) (B : Nat) (P : RS → Prop) : Prop := ∃ s, P { s with down := false } ∧ Dk w O B s
theorem dk_crash {w : World} {O : Nat → Prop} {B : Nat} {s : RS} {P : RS → Prop} (h : Dk w O B s) (hI : Inv s) (ks : List Int) (v : Value) (hk : Ints w v ks) (hkO : ∀ p, ks ≠ [] → v.ownBlock = some p → ¬ O p) (hP : P { crashS s ks with down := false }) :
    Calls Tryd.prog 24 #[.pointer (some ⟨B, 0, none⟩), v] w fun e w' => ∃ O', e = .returned (.tuple #[]) ∧ Step O w w' O' ∧ SX w' O' B P := by
  refine (crash_any ks v O B s w h hI hk hkO).mono ?_
  rintro e w' ⟨rfl, O', h1, h2, h3⟩
  exact ⟨O', rfl, ⟨h2, h3⟩, _, hP, h1⟩
theorem sx_start {w : World} {O : Nat → Prop} {B : Nat} {P : RS → Prop} (h : SX w O B P) :
    Calls Tryd.prog 26 #[.pointer (some ⟨B, 0, none⟩)] w fun e w' => ∃ O', e = .returned (.tuple #[]) ∧ Step O w w' O' ∧ ∃ s, P s ∧ Dk w' O' B s := by
  obtain ⟨s, hP, hd⟩ := h
  refine (start_any O B s w hd).mono ?_
  rintro e w' ⟨rfl, O', h1, h2, h3⟩
  exact ⟨O', rfl, ⟨h2, h3⟩, _, hP, h1⟩
theorem sd_open {w : World} {O : Nat → Prop} {B z : Nat} (h : SD w O B z) :
    Calls Tryd.prog 12 #[.pointer (some ⟨B, 0, none⟩), .int .i64 0] w fun e w' => ∃ O', Step O w w' O' ∧
      ((∃ E : Int, E ≠ 0 ∧ e = .returned (.tuple #[.pointer none, .int .i64 E]) ∧ SD w' O' B z) ∨ ∃ J rs, e = .returned (.tuple #[.pointer (some ⟨J, 0, none⟩), .int .i64 0]) ∧ SJ w' O' B J rs false z) := by
  obtain ⟨s, hU, hd⟩ := h
  refine (u_open hd hU (by decide)).mono ?_
  rintro e w' ⟨O', s', h1, h2, ⟨E, h3, h4, _, h5⟩ | ⟨J, rs, rest, h3, h4, h5, h6, _⟩⟩
  · exact ⟨O', h1, .inl ⟨E, h3, h4, s', h2, h5⟩⟩
  · exact ⟨O', h1, .inr ⟨J, rs, h3, s', h2, h4, fun _ => h5, by rw [← h5, fileL_len]; exact h2.sz, h6.small⟩⟩
/-- The same after Sync. -/
def DQ (rs : List (List UInt8)) (z : Nat) (s : RS) : Prop := Up s 0 z ∧ fileL s 0 = Jm.forms rs ∧ s.lost = 0 ∧ Jm.Small rs
theorem SQ.crash {w : World} {O : Nat → Prop} {B J z : Nat} {rs : List (List UInt8)} (h : SQ w O B J rs z) : ∃ Od s, Dk w Od B s ∧ (∀ k, Od k → O k) ∧ Inv s ∧ ∀ ks, DQ rs z { crashS s ks with down := false } := by
  obtain ⟨s, ⟨h1, h2⟩, h3⟩ := h
  obtain ⟨Od, rv, hj⟩ := h1.jd
  refine ⟨Od, s, hj.dk, hj.sub, h1.up.good.inv, fun ks => ⟨h1.up.crash ks, ?_, (crash_lost s ks).trans h3, h1.small⟩⟩
  have hc := held_crash h1.up.good.inv h2 ks
  rw [← h1.file rfl]
  exact fileL_congr (s := { crashS s ks with down := false }) hc.sz (fun i _ => hc.now i)
theorem dq_open {w : World} {O : Nat → Prop} {B z : Nat} {rs : List (List UInt8)} {s : RS} (h : Dk w O B s) (hq : DQ rs z s) :
    Calls Tryd.prog 12 #[.pointer (some ⟨B, 0, none⟩), .int .i64 0] w fun e w' => ∃ J O', e = .returned (.tuple #[.pointer (some ⟨J, 0, none⟩), .int .i64 0]) ∧ Step O w w' O' ∧ SQ w' O' B J rs z := by
  refine (u_open h hq.1 (by decide)).mono ?_
  rintro e w' ⟨O', s', h1, h2, ⟨E, h3, h4, h5, _⟩ | ⟨J, qs, rest, h3, h4, h5, h6, h7⟩⟩
  · exact absurd hq.2.2.1 (by omega)
  · rw [hq.2.1] at h6
    obtain ⟨rfl, rfl⟩ := h6.unique (Jm.Recs.all hq.2.2.2)
    exact ⟨J, O', h3, h1, s', ⟨⟨h2, h4, fun _ => h5, by rw [← h5, fileL_len]; exact h2.sz, hq.2.2.2⟩, (h7 rfl).1⟩, (h7 rfl).2⟩
end Go.Proofs.YtgncliigmjeffaaDoor
