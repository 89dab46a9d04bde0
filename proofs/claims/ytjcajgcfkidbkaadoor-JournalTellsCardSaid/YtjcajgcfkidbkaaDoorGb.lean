/-
  The program's disk and its journal, if it is open: what each call does to them.
-/
import Derived.Test.YtjcajgcfkidbkaaDoorJn
import Derived.Test.YtjcajgcfkidbkaaDoorJf
import Derived.Test.YtjcajgcfkidbkaaDoorJh
import Derived.Test.YtjcajgcfkidbkaaDoorGa
namespace Go.Proofs.YtjcajgcfkidbkaaDoor
open Go.RowKit

/-- What is told of a journal: its records, and whether it is broken. -/
abbrev JG := Option (List (List UInt8) × Bool)
/-- What Open comes to, told without memory. -/
inductive OpenG (s : RS) (f : Nat) : Int → RS → JG → Prop
  | lost (h0 : syncE s f ≠ 0) : OpenG s f (syncE s f) (syncS s f) none
  | whole (h0 : syncE s f = 0) (rs : List (List UInt8)) (hr : Jm.Recs (fileL (syncS s f) f) rs []) : OpenG s f 0 (syncS s f) (some (rs, false))
  | torn (h0 : syncE s f = 0) (rs : List (List UInt8)) (rest : List UInt8) (hr : Jm.Recs (fileL (syncS s f) f) rs rest) (h1 : rest ≠ []) (h2 : truncE (syncS s f) f ((Jm.forms rs).length : Nat) ≠ 0) :
      OpenG s f (truncE (syncS s f) f ((Jm.forms rs).length : Nat)) (truncS (syncS s f) f ((Jm.forms rs).length : Nat)) none
  | cut (h0 : syncE s f = 0) (rs : List (List UInt8)) (rest : List UInt8) (hr : Jm.Recs (fileL (syncS s f) f) rs rest) (h1 : rest ≠ []) (h2 : truncE (syncS s f) f ((Jm.forms rs).length : Nat) = 0) :
      OpenG s f 0 (truncS (syncS s f) f ((Jm.forms rs).length : Nat)) (some (rs, false))
theorem OpenG.unique {s : RS} {f : Nat} {E E2 : Int} {s1 s2 : RS} {g g2 : JG} (h : OpenG s f E s1 g) (k : OpenG s f E2 s2 g2) : E = E2 ∧ s1 = s2 ∧ g = g2 := by
  cases h with
  | lost h0 =>
    cases k with
    | lost _ => exact ⟨rfl, rfl, rfl⟩
    | whole k0 => exact absurd k0 h0
    | torn k0 => exact absurd k0 h0
    | cut k0 => exact absurd k0 h0
  | whole h0 rs hr =>
    cases k with
    | lost k0 => exact absurd h0 k0
    | whole _ qs hq => obtain ⟨rfl, _⟩ := hr.unique hq; exact ⟨rfl, rfl, rfl⟩
    | torn _ qs q hq k1 => obtain ⟨_, e⟩ := hr.unique hq; exact absurd e.symm k1
    | cut _ qs q hq k1 => obtain ⟨_, e⟩ := hr.unique hq; exact absurd e.symm k1
  | torn h0 rs r hr h1 h2 =>
    cases k with
    | lost k0 => exact absurd h0 k0
    | whole _ qs hq => obtain ⟨_, e⟩ := hr.unique hq; exact absurd e h1
    | torn _ qs q hq k1 => obtain ⟨rfl, _⟩ := hr.unique hq; exact ⟨rfl, rfl, rfl⟩
    | cut _ qs q hq k1 k2 => obtain ⟨rfl, _⟩ := hr.unique hq; exact absurd k2 h2
  | cut h0 rs r hr h1 h2 =>
    cases k with
    | lost k0 => exact absurd h0 k0
    | whole _ qs hq => obtain ⟨_, e⟩ := hr.unique hq; exact absurd e h1
    | torn _ qs q hq k1 k2 => obtain ⟨rfl, _⟩ := hr.unique hq; exact absurd h2 k2
    | cut _ qs q hq k1 k2 => obtain ⟨rfl, _⟩ := hr.unique hq; exact ⟨rfl, rfl, rfl⟩
/-- The records are those of a file. -/
def JOk (g : JG) : Prop := ∀ rs br, g = some (rs, br) → Jm.Small rs ∧ (Jm.forms rs).length ≤ 16777216
theorem OpenG.ok {s s' : RS} {f : Nat} {E : Int} {g : JG} (h : OpenG s f E s' g) (hg : Good s) : Good s' ∧ JOk g := by
  have h1 := good_sync hg f
  have hm := h1.inv.max f
  cases h with
  | lost _ => exact ⟨h1, fun _ _ e => by simp at e⟩
  | whole _ rs hr => exact ⟨h1, fun _ _ e => by
      obtain ⟨rfl, _⟩ : rs = _ ∧ _ = _ := by simpa using e
      have := congrArg List.length hr.eq
      rw [fileL_len, List.length_append] at this
      exact ⟨hr.small, by omega⟩⟩
  | torn _ rs r hr _ _ => exact ⟨good_trunc h1 _ _, fun _ _ e => by simp at e⟩
  | cut _ rs r hr _ _ => exact ⟨good_trunc h1 _ _, fun _ _ e => by
      obtain ⟨rfl, _⟩ : rs = _ ∧ _ = _ := by simpa using e
      have := congrArg List.length hr.eq
      rw [fileL_len, List.length_append] at this
      exact ⟨hr.small, by omega⟩⟩
/-- What Append comes to. -/
def apFull (rs : List (List UInt8)) (r : List UInt8) : Prop := 1048576 < (Jm.forms rs).length + (Jm.formE.f r).length
instance (rs : List (List UInt8)) (r : List UInt8) : Decidable (apFull rs r) := by unfold apFull; exact inferInstance
def apE (s : RS) (f : Nat) (rs : List (List UInt8)) (br : Bool) (r : List UInt8) : Int := if br = true then 7 else if apFull rs r then 6 else writeE s f (Jm.forms rs).length (Jm.formE.f r)
def apS (s : RS) (f : Nat) (rs : List (List UInt8)) (br : Bool) (r : List UInt8) : RS := if br = true then s else if apFull rs r then s else writeS s f (Jm.forms rs).length (Jm.formE.f r)
def apG (s : RS) (f : Nat) (rs : List (List UInt8)) (br : Bool) (r : List UInt8) : JG := if br = true then some (rs, true) else if apFull rs r then some (rs, false) else
  some (appL (writeE s f (Jm.forms rs).length (Jm.formE.f r)) rs r, writeE s f (Jm.forms rs).length (Jm.formE.f r) != 0)
/-- What Sync comes to. -/
def syE (s : RS) (f : Nat) (br : Bool) : Int := if br = true then 7 else syncE s f
def syS (s : RS) (f : Nat) (br : Bool) : RS := if br = true then s else syncS s f
def syG (s : RS) (f : Nat) (rs : List (List UInt8)) (br : Bool) : JG := if br = true then some (rs, true) else some (rs, syncE s f != 0)
theorem ap_ok {s : RS} (hg : Good s) (f : Nat) {rs : List (List UInt8)} {br : Bool} (r : List UInt8) (hj : JOk (some (rs, br))) (hr : r.length ≤ 200) : Good (apS s f rs br r) ∧ JOk (apG s f rs br r) := by
  obtain ⟨h1, h2⟩ := hj rs br rfl
  unfold apS apG
  split
  · exact ⟨hg, fun _ _ e => by obtain ⟨rfl, _⟩ := Prod.mk.inj (Option.some.inj e); exact ⟨h1, h2⟩⟩
  · split
    · exact ⟨hg, fun _ _ e => by obtain ⟨rfl, _⟩ := Prod.mk.inj (Option.some.inj e); exact ⟨h1, h2⟩⟩
    · next hf =>
      refine ⟨good_write hg _ _ _, fun qs br' e => ?_⟩
      obtain ⟨rfl, _⟩ := Prod.mk.inj (Option.some.inj e)
      unfold appL
      unfold apFull at hf
      split
      · refine ⟨fun x hx => ?_, by rw [Jm.forms_snoc, List.length_append]; omega⟩
        rcases List.mem_append.1 hx with hx | hx
        · exact h1 x hx
        · rw [List.mem_singleton.1 hx]; omega
      · exact ⟨h1, h2⟩
theorem sy_ok {s : RS} (hg : Good s) (f : Nat) {rs : List (List UInt8)} {br : Bool} (hj : JOk (some (rs, br))) : Good (syS s f br) ∧ JOk (syG s f rs br) := by
  obtain ⟨h1, h2⟩ := hj rs br rfl
  unfold syS syG
  split
  · exact ⟨hg, fun _ _ e => by obtain ⟨rfl, _⟩ := Prod.mk.inj (Option.some.inj e); exact ⟨h1, h2⟩⟩
  · exact ⟨good_sync hg f, fun _ _ e => by obtain ⟨rfl, _⟩ := Prod.mk.inj (Option.some.inj e); exact ⟨h1, h2⟩⟩

/-! ### In memory -/
theorem JD.keep' {w w' : World} {O : Nat → Prop} {B J : Nat} {s : RS} {f : Int} {rs : List (List UInt8)} {br : Bool} (h : JD w O B J s f rs br) (hs : w.heap.size ≤ w'.heap.size) (hw : ∀ k, O k → w'.heap[k]? = w.heap[k]?) : JD w' O B J s f rs br :=
  let ⟨Od, rv, h1⟩ := h
  ⟨Od, rv, h1.dk.frame hs (fun k hk => hw k (h1.sub k hk)), h1.jn.keep (hw J h1.oJ) (fun p hp => hw p (h1.oR p hp)), h1.sub, h1.oJ, h1.oR, h1.nJ, h1.nR, fun k hk => Nat.lt_of_lt_of_le (h1.bound k hk) hs⟩
def PAt (jv : Value) (B : Nat) (f : Int) (s : RS) (g : JG) (w : World) (O : Nat → Prop) : Prop :=
  (g = none ∧ jv = .pointer none ∧ Dk w O B s) ∨ ∃ J rs br, g = some (rs, br) ∧ jv = .pointer (some ⟨J, 0, none⟩) ∧ JD w O B J s f rs br
def PT (jv : Value) (B : Nat) (f : Int) (s : RS) (g : JG) : Thing where
  at_ w O := PAt jv B f s g w O
  bound h k hk := by
    rcases h with ⟨_, _, h⟩ | ⟨J, rs, br, _, _, Od, rv, h⟩
    · exact h.bound k hk
    · exact h.bound k hk
  frame h hs hw := by
    rcases h with ⟨h1, h2, h⟩ | ⟨J, rs, br, h1, h2, h⟩
    · exact .inl ⟨h1, h2, h.frame hs hw⟩
    · exact .inr ⟨J, rs, br, h1, h2, h.keep' hs hw⟩
/-- Whether the journal is there. -/
theorem Has.pjv {W w : World} {U : Thing} {jv : Value} {B : Nat} {f : Int} {s : RS} {g : JG} (h : Has W w ((PT jv B f s g).sep U)) : (g = none ∧ jv = .pointer none) ∨ ∃ J rs br rv, g = some (rs, br) ∧ jv = .pointer (some ⟨J, 0, none⟩) ∧ Jn w J B f rv rs br := by
  obtain ⟨O, hT, _, _⟩ := h.open
  rcases hT with ⟨h1, h2, _⟩ | ⟨J, rs, br, h1, h2, Od, rv, h3⟩
  · exact .inl ⟨h1, h2⟩
  · exact .inr ⟨J, rs, br, rv, h1, h2, h3.jn⟩
theorem Has.pdisk {W w : World} {U : Thing} {jv : Value} {B : Nat} {f : Int} {s s' : RS} {g : JG} {fn : FuncId} {args : Array Value} {r : Ending} (h : Has W w ((PT jv B f s g).sep U))
    (hc : ∀ O, Dk w O B s → (∀ k, O k → W.heap.size ≤ k) → Calls Tryd.prog fn args w fun e w' => e = r ∧ DkP O w w' B s') : Calls Tryd.prog fn args w fun e w' => e = r ∧ Has W w' ((PT jv B f s' g).sep U) := by
  obtain ⟨O, hT, hO, hk⟩ := h.open
  rcases hT with ⟨h1, h2, hd⟩ | ⟨J, rs, br, h1, h2, Od, rv, hj⟩
  · refine (hc O hd hO).mono ?_
    rintro e w' ⟨rfl, O', h3, h4, h5⟩
    exact ⟨rfl, hk w' _ ⟨O', .inl ⟨h1, h2, h3⟩, h4, h5⟩⟩
  · refine (hc Od hj.dk (fun k hk => hO k (hj.sub k hk))).mono ?_
    rintro e w' ⟨rfl, hp⟩
    obtain ⟨Od', h3, h4, h5⟩ := hj.disk hp
    exact ⟨rfl, hk w' _ ⟨_, .inr ⟨J, rs, br, h1, h2, Od', rv, h3⟩, h4, h5⟩⟩
theorem Has.pdk {W w : World} {U : Thing} {jv : Value} {B : Nat} {f : Int} {s : RS} {g : JG} (h : Has W w ((PT jv B f s g).sep U)) : ∃ O, Dk w O B s := by
  obtain ⟨O, hT, _, _⟩ := h.open
  rcases hT with ⟨_, _, hd⟩ | ⟨J, rs, br, _, _, Od, rv, hj⟩
  · exact ⟨O, hd⟩
  · exact ⟨Od, hj.dk⟩
/-- The journal is forgotten. -/
theorem Has.pleave {W w : World} {U : Thing} {jv : Value} {B : Nat} {f : Int} {s : RS} {g : JG} (h : Has W w ((PT jv B f s g).sep U)) : Has W w ((PT (.pointer none) B f s none).sep U) := by
  obtain ⟨hf, O, ⟨O1, O2, h1, h2, h3, h4⟩, hO⟩ := h
  rcases h1 with ⟨_, _, hd⟩ | ⟨J, rs, br, _, _, Od, rv, hj⟩
  · exact ⟨hf, O, ⟨O1, O2, .inl ⟨rfl, rfl, hd⟩, h2, h3, h4⟩, hO⟩
  · exact ⟨hf, fun k => Od k ∨ O2 k, ⟨Od, O2, .inl ⟨rfl, rfl, hj.dk⟩, h2, fun k hk => h3 k (hj.sub k hk), fun _ => Iff.rfl⟩, fun k hk => hO k ((h4 k).2 (hk.imp (hj.sub k) id))⟩
theorem Has.pnew {W w : World} {U : Thing} (f : Int) (h : Has W w U) :
    Calls Tryd.prog 10 #[] w fun e w' => ∃ B, e = .returned (.pointer (some ⟨B, 0, none⟩)) ∧ Has W w' ((PT (.pointer none) B f newS none).sep U) := by
  refine (new_any w).mono ?_
  rintro e w' ⟨B, rfl, O, h1, h2, h3⟩
  exact ⟨B, rfl, h.new ⟨O, .inl ⟨rfl, rfl, h1⟩, h2, h3⟩⟩
theorem Has.plose {W w : World} {U : Thing} {jv : Value} {B : Nat} {f : Int} {s : RS} {g : JG} (h : Has W w ((PT jv B f s g).sep U)) (n : Int) :
    Calls Tryd.prog 20 #[.pointer (some ⟨B, 0, none⟩), .int .i64 n] w fun e w' => e = .returned (.tuple #[]) ∧ Has W w' ((PT jv B f { s with lost := n.toNat } g).sep U) :=
  h.pdisk fun O hd _ => lose_any O B n s w hd
theorem Has.pstart {W w : World} {U : Thing} {jv : Value} {B : Nat} {f : Int} {s : RS} {g : JG} (h : Has W w ((PT jv B f s g).sep U)) :
    Calls Tryd.prog 26 #[.pointer (some ⟨B, 0, none⟩)] w fun e w' => e = .returned (.tuple #[]) ∧ Has W w' ((PT jv B f { s with down := false } g).sep U) :=
  h.pdisk fun O hd _ => start_any O B s w hd
theorem Has.parm {W w : World} {U : Thing} {jv : Value} {B : Nat} {f : Int} {s : RS} {g : JG} (h : Has W w ((PT jv B f s g).sep U)) (n : Int) {v : Value} {ks : List Int} (hk : Ints W v ks) (hl : ks.length ≤ 60) :
    Calls Tryd.prog 22 #[.pointer (some ⟨B, 0, none⟩), .int .i64 n, v] w fun e w' => e = .returned (.tuple #[]) ∧ Has W w' ((PT jv B f (armS s n ks) g).sep U) :=
  h.pdisk fun O hd _ => arm_any O B n v ks s w hd (hk.fr h.toFr) (by omega)
theorem Has.pcrash {W w : World} {U : Thing} {jv : Value} {B : Nat} {f : Int} {s : RS} {g : JG} (h : Has W w ((PT jv B f s g).sep U)) (hg : Good s) {v : Value} {ks : List Int} (hk : Ints W v ks) :
    Calls Tryd.prog 24 #[.pointer (some ⟨B, 0, none⟩), v] w fun e w' => e = .returned (.tuple #[]) ∧ Has W w' ((PT jv B f (crashS s ks) g).sep U) :=
  h.pdisk fun O hd hO => crash_any ks v O B s w hd hg.inv (hk.fr h.toFr) fun p h0 hp ho => by
    have h1 := hk.lt p h0 hp
    have h2 := hO p ho
    omega
theorem Has.popen {W w : World} {U : Thing} {jv : Value} {B f : Nat} {s : RS} {g : JG} (h : Has W w ((PT jv B f s g).sep U)) (hg : Good s) (hf : f < 16) :
    Calls Tryd.prog 12 #[.pointer (some ⟨B, 0, none⟩), .int .i64 f] w fun e w' => ∃ jv' E s' g', OpenG s f E s' g' ∧ e = .returned (.tuple #[jv', .int .i64 E]) ∧ Has W w' ((PT jv' B f s' g').sep U) := by
  obtain ⟨O, hT, hO, hk⟩ := h.pleave.open
  rcases hT with ⟨_, _, hd⟩ | ⟨J, rs, br, h1, _⟩
  · refine (jopen_any hd hg hf).mono ?_
    rintro e w' hp
    cases hp with
    | lost E hE h0 he hd =>
      subst hE
      obtain ⟨O', h3, h4, h5⟩ := hd
      exact ⟨_, _, _, _, .lost h0, he, hk w' (PT (.pointer none) B f _ none) ⟨O', .inl ⟨rfl, rfl, h3⟩, h4, h5⟩⟩
    | whole hE J rs hr he hd =>
      obtain ⟨O', h3, h4, h5⟩ := hd
      exact ⟨_, _, _, _, .whole hE rs hr, he, hk w' (PT (.pointer (some ⟨J, 0, none⟩)) B f _ (some (rs, false))) ⟨O', .inr ⟨J, rs, false, rfl, rfl, h3⟩, h4, h5⟩⟩
    | torn hE rs rest hr h0 E hT h1 he hd =>
      subst hT
      obtain ⟨O', h3, h4, h5⟩ := hd
      exact ⟨_, _, _, _, .torn hE rs rest hr h0 h1, he, hk w' (PT (.pointer none) B f _ none) ⟨O', .inl ⟨rfl, rfl, h3⟩, h4, h5⟩⟩
    | cut hE J rs rest hr h0 hT he hd =>
      obtain ⟨O', h3, h4, h5⟩ := hd
      exact ⟨_, _, _, _, .cut hE rs rest hr h0 hT, he, hk w' (PT (.pointer (some ⟨J, 0, none⟩)) B f _ (some (rs, false))) ⟨O', .inr ⟨J, rs, false, rfl, rfl, h3⟩, h4, h5⟩⟩
  · simp at h1
/-- A call of the journal's. -/
theorem Has.pcall {W w : World} {U : Thing} {J B : Nat} {f : Int} {s s' : RS} {rs rs' : List (List UInt8)} {br br' : Bool} {fn : FuncId} {args : Array Value} {r : Ending} (h : Has W w ((PT (.pointer (some ⟨J, 0, none⟩)) B f s (some (rs, br))).sep U))
    (hc : ∀ O, JD w O B J s f rs br → Calls Tryd.prog fn args w fun e w' => e = r ∧ JDP O w w' B J s' f rs' br') : Calls Tryd.prog fn args w fun e w' => e = r ∧ Has W w' ((PT (.pointer (some ⟨J, 0, none⟩)) B f s' (some (rs', br'))).sep U) := by
  obtain ⟨O, hT, _, hk⟩ := h.open
  rcases hT with ⟨h1, _⟩ | ⟨J', qs, br1, h1, h2, hd⟩
  · simp at h1
  · obtain ⟨rfl, rfl⟩ := Prod.mk.inj (Option.some.inj h1)
    obtain rfl : J = J' := by simpa using h2
    refine (hc O hd).mono ?_
    rintro e w' ⟨rfl, O', h3, h4, h5⟩
    exact ⟨rfl, hk w' _ ⟨O', .inr ⟨J, rs', br', rfl, rfl, h3⟩, h4, h5⟩⟩
theorem Has.psync {W w : World} {U : Thing} {J B f : Nat} {s : RS} {rs : List (List UInt8)} {br : Bool} (h : Has W w ((PT (.pointer (some ⟨J, 0, none⟩)) B f s (some (rs, br))).sep U)) (hg : Good s) :
    Calls Tryd.prog 18 #[.pointer (some ⟨J, 0, none⟩)] w fun e w' => e = .returned (.int .i64 (syE s f br)) ∧ Has W w' ((PT (.pointer (some ⟨J, 0, none⟩)) B f (syS s f br) (syG s f rs br)).sep U) := by
  cases br with
  | true =>
    refine h.pcall (r := .returned (.int .i64 7)) (s' := s) (rs' := rs) (br' := true) fun O hd => ?_
    obtain ⟨Od, rv, hj⟩ := id hd
    refine (jsync_broken hj.jn).mono ?_
    rintro e w' ⟨rfl, rfl⟩
    exact ⟨rfl, .of_fr hd (Fr.refl _)⟩
  | false => exact h.pcall (r := .returned (.int .i64 (syncE s f))) (s' := syncS s f) (rs' := rs) (br' := syncE s f != 0) fun O hd => jsync_go hd hg
set_option maxHeartbeats 1000000 in
theorem append_full {w : World} {J B : Nat} {f : Int} {rv : Value} {rs : List (List UInt8)} (h : Jn w J B f rv rs false) (r : List UInt8) (hr : r.length ≤ 20000) (hm : apFull rs r) (ht : Tab w) (hx : (Jm.forms rs).length ≤ 16777216) :
    Calls Tryd.prog 16 #[.pointer (some ⟨J, 0, none⟩), .string (S r)] w fun e w' => e = .returned (.int .i64 6) ∧ Fr w w' := by
  have c4 := h.c4
  have H := Lib.hid h
  unfold apFull at hm
  have hfl := Jm.form_len r (by omega)
  generalize hl : (Jm.forms rs).length = L at *
  have HL := Lib.hid hl
  generalize hq : Jm.formE.f r = q at *
  have HQ := Lib.hid hq
  clear h hl hq
  go_enter Tryd.func16, Tryd.ntmps16
  go_wp2_with fail
  refine (form_any r w (by omega) ht).mono ?_
  rintro e w1 ⟨rfl, hf1⟩
  rw [HQ.out]
  have c3 := hf1.cell H.out.c3
  rw [HL.out] at c3
  have HF := Lib.hid hf1
  clear hf1
  go_wp2_with fail
  go_ret
  exact ⟨rfl, HF.out⟩
theorem Has.pappend {W w : World} {U : Thing} {J B f : Nat} {s : RS} {rs : List (List UInt8)} {br : Bool} (h : Has W w ((PT (.pointer (some ⟨J, 0, none⟩)) B f s (some (rs, br))).sep U)) (hg : Good s) (hj : JOk (some (rs, br))) (r : List UInt8) (hr : r.length ≤ 200) (ht : Tab W) :
    Calls Tryd.prog 16 #[.pointer (some ⟨J, 0, none⟩), .string (S r)] w fun e w' => e = .returned (.int .i64 (apE s f rs br r)) ∧ Has W w' ((PT (.pointer (some ⟨J, 0, none⟩)) B f (apS s f rs br r) (apG s f rs br r)).sep U) := by
  have htw := ht.fr h.toFr
  have hjx := (hj rs br rfl).2
  cases br with
  | true =>
    refine h.pcall (r := .returned (.int .i64 7)) (s' := s) (rs' := rs) (br' := true) fun O hd => ?_
    obtain ⟨Od, rv, hj⟩ := id hd
    refine (append_broken hj.jn (S r)).mono ?_
    rintro e w' ⟨rfl, rfl⟩
    exact ⟨rfl, .of_fr hd (Fr.refl _)⟩
  | false =>
    by_cases hm : apFull rs r
    · have e1 : apE s f rs false r = 6 := by unfold apE; rw [if_neg (by decide), if_pos hm]
      have e2 : apS s f rs false r = s := by unfold apS; rw [if_neg (by decide), if_pos hm]
      have e3 : apG s f rs false r = some (rs, false) := by unfold apG; rw [if_neg (by decide), if_pos hm]
      rw [e1, e2, e3]
      refine h.pcall (r := .returned (.int .i64 6)) (s' := s) (rs' := rs) (br' := false) fun O hd => ?_
      obtain ⟨Od, rv, hj⟩ := id hd
      refine (append_full hj.jn r (by omega) hm htw hjx).mono ?_
      rintro e w' ⟨rfl, hf⟩
      exact ⟨rfl, .of_fr hd hf⟩
    · have e1 : apE s f rs false r = writeE s f (Jm.forms rs).length (Jm.formE.f r) := by unfold apE; rw [if_neg (by decide), if_neg hm]
      have e2 : apS s f rs false r = writeS s f (Jm.forms rs).length (Jm.formE.f r) := by unfold apS; rw [if_neg (by decide), if_neg hm]
      have e3 : apG s f rs false r = some (appL (writeE s f (Jm.forms rs).length (Jm.formE.f r)) rs r, writeE s f (Jm.forms rs).length (Jm.formE.f r) != 0) := by unfold apG; rw [if_neg (by decide), if_neg hm]
      rw [e1, e2, e3]
      unfold apFull at hm
      exact h.pcall fun O hd => append_go hd hg r (by omega) (by omega) htw
end Go.Proofs.YtjcajgcfkidbkaaDoor
