/-
  Both sides of JournalTells beside each other, and what each pair of calls does to them.
-/
import Derived.Test.YtjcajgcfkidbkaaDoorGk
import Derived.Test.YtjcajgcfkidbkaaDoorJs
namespace Go.Proofs.YtjcajgcfkidbkaaDoor
open Go.RowKit Go.BigFrame

theorem Has.popen3 {W w : World} {U : Thing} {jv : Value} {B : Nat} {s : RS} {g : JG} (h : Has W w ((PT jv B 3 s g).sep U)) (hg : Good s) :
    Calls Tryd.prog 12 #[.pointer (some ⟨B, 0, none⟩), .int .i64 3] w fun e w' => ∃ jv' E s' g', OpenG s 3 E s' g' ∧ e = .returned (.tuple #[jv', .int .i64 E]) ∧ Has W w' ((PT jv' B 3 s' g').sep U) :=
  Has.popen (f := 3) h hg (by decide)
theorem Has.psync3 {W w : World} {U : Thing} {J B : Nat} {s : RS} {rs : List (List UInt8)} {br : Bool} (h : Has W w ((PT (.pointer (some ⟨J, 0, none⟩)) B 3 s (some (rs, br))).sep U)) (hg : Good s) :
    Calls Tryd.prog 18 #[.pointer (some ⟨J, 0, none⟩)] w fun e w' => e = .returned (.int .i64 (syE s 3 br)) ∧ Has W w' ((PT (.pointer (some ⟨J, 0, none⟩)) B 3 (syS s 3 br) (syG s 3 rs br)).sep U) :=
  Has.psync (f := 3) h hg
theorem Has.pappend3 {W w : World} {U : Thing} {J B : Nat} {s : RS} {rs : List (List UInt8)} {br : Bool} (h : Has W w ((PT (.pointer (some ⟨J, 0, none⟩)) B 3 s (some (rs, br))).sep U)) (hg : Good s) (hj : JOk (some (rs, br))) (r : List UInt8) (hr : r.length ≤ 200) (ht : Tab W) :
    Calls Tryd.prog 16 #[.pointer (some ⟨J, 0, none⟩), .string (S r)] w fun e w' => e = .returned (.int .i64 (apE s 3 rs br r)) ∧ Has W w' ((PT (.pointer (some ⟨J, 0, none⟩)) B 3 (apS s 3 rs br r) (apG s 3 rs br r)).sep U) :=
  Has.pappend (f := 3) h hg hj r hr ht
theorem Has.ropen3 {W w : World} {U : Thing} {R n : Nat} {s : RS} (h : Has W w ((QfT R n s).sep U)) (hg : Good s) (hn : n ≤ 48000) :
    Calls Tryd.prog 13 #[.pointer (some ⟨R, 0, none⟩), .int .i64 3] w fun e w' => ∃ kv E s' g', OpenG s 3 E s' g' ∧ e = .returned (.tuple #[kv, .int .i64 E]) ∧ Has W w' ((RjT kv R (n + 1400) 3 s' g').sep U) :=
  Has.ropen (f := 3) h hg hn (by decide)
theorem Has.rsync3 {W w : World} {U : Thing} {K R n : Nat} {s : RS} {rs : List (List UInt8)} {br : Bool} (h : Has W w ((RjT (.pointer (some ⟨K, 0, none⟩)) R n 3 s (some (rs, br))).sep U)) (hg : Good s) (hn : n ≤ 48000) :
    Calls Tryd.prog 19 #[.pointer (some ⟨K, 0, none⟩)] w fun e w' => e = .returned (.int .i64 (syE s 3 br)) ∧ Has W w' ((RjT (.pointer (some ⟨K, 0, none⟩)) R (n + 1400) 3 (syS s 3 br) (syG s 3 rs br)).sep U) :=
  Has.rsync (f := 3) h hg hn
theorem Has.rappend3 {W w : World} {U : Thing} {K R n : Nat} {s : RS} {rs : List (List UInt8)} {br : Bool} (h : Has W w ((RjT (.pointer (some ⟨K, 0, none⟩)) R n 3 s (some (rs, br))).sep U)) (hg : Good s) (hn : n ≤ 48000) (hj : JOk (some (rs, br))) (r : List UInt8) (hr : r.length ≤ 200) :
    Calls Tryd.prog 17 #[.pointer (some ⟨K, 0, none⟩), .string (S r)] w fun e w' => e = .returned (.int .i64 (apE s 3 rs br r)) ∧ Has W w' ((RjT (.pointer (some ⟨K, 0, none⟩)) R (n + 1400) 3 (apS s 3 rs br r) (apG s 3 rs br r)).sep U) :=
  Has.rappend (f := 3) h hg hn hj r hr

/-- Both sides: the program's may be a call ahead. -/
abbrev MS (U : Thing) (W w : World) (jv kv : Value) (B R n : Nat) (s1 s : RS) (g1 g : JG) : Prop := Has W w ((PT jv B 3 s1 g1).sep ((RjT kv R n 3 s g).sep U))
structure LS (U : Thing) (W w : World) (jv kv : Value) (B R n : Nat) (s : RS) (g : JG) : Prop where
  good : Good s
  jok : JOk g
  has : MS U W w jv kv B R n s s g g
theorem LS.fr {U : Thing} {W w w' : World} {jv kv : Value} {B R n : Nat} {s : RS} {g : JG} (h : LS U W w jv kv B R n s g) (hf : Fr w w') : LS U W w' jv kv B R n s g := ⟨h.good, h.jok, h.has.fr hf⟩
theorem LS.mono {U : Thing} {W w : World} {jv kv : Value} {B R n m : Nat} {s : RS} {g : JG} (h : LS U W w jv kv B R n s g) (hm : n ≤ m) : LS U W w jv kv B R m s g := ⟨h.good, h.jok, (Has.rmono h.has.turn hm).turn⟩
theorem LS.cases {U : Thing} {W w : World} {jv kv : Value} {B R n : Nat} {s : RS} {g : JG} (h : LS U W w jv kv B R n s g) : (g = none ∧ jv = .pointer none ∧ kv = .pointer none) ∨
    ∃ rs br J K rjv rv, g = some (rs, br) ∧ jv = .pointer (some ⟨J, 0, none⟩) ∧ kv = .pointer (some ⟨K, 0, none⟩) ∧ Jn w J B 3 rjv rs br ∧ w.heap[K]? = some (.cells (rjC R 3 rv br) 49 (0, 0)) ∧ Row w rv rs := by
  rcases h.has.pjv with ⟨rfl, h2⟩ | ⟨J, rs, br, rjv, rfl, h2, h3⟩
  · rcases h.has.turn.rkv with ⟨_, k2⟩ | ⟨K, rv, rs, br, k1, _⟩
    · exact .inl ⟨rfl, h2, k2⟩
    · simp at k1
  · rcases h.has.turn.rkv with ⟨k1, _⟩ | ⟨K, rv, qs, bq, k1, k2, k3, k4⟩
    · simp at k1
    · obtain ⟨rfl, rfl⟩ := Prod.mk.inj (Option.some.inj k1)
      exact .inr ⟨rs, br, J, K, rjv, rv, rfl, h2, k2, h3, k3, k4⟩

theorem LS.put {W w : World} {jv kv : Value} {B R n : Nat} {s : RS} {g : JG} (h : LS .emp W w jv kv B R n s g) (t : TypeId) (C : Array Value) : LS ((BoxT t w.heap.size C).sep .emp) W (w.alloc (.cells C t)) jv kv B R n s g :=
  ⟨h.good, h.jok, (h.has.box t C).map fun _ h => sep_under (sep_turn h) fun _ h => sep_turn h⟩
theorem LS.take {W w : World} {jv kv : Value} {B R n T : Nat} {s : RS} {g : JG} {t : TypeId} {C : Array Value} (h : LS ((BoxT t T C).sep .emp) W w jv kv B R n s g) : LS .emp W w jv kv B R n s g :=
  ⟨h.good, h.jok, (h.has.map fun _ h => sep_turn (sep_under h fun _ h => sep_turn h)).right⟩
theorem Has.opbox {W w : World} {A B U : Thing} {T : Nat} {t : TypeId} {C : Array Value} (h : Has W w (A.sep (B.sep ((BoxT t T C).sep U)))) : w.heap[T]? = some (.cells C t (0, 0)) := h.right.right.boxed
theorem Jn.fr' {w w' : World} {J B : Nat} {f : Int} {rv : Value} {rs : List (List UInt8)} {br : Bool} (h : Jn w J B f rv rs br) (hf : Fr w w') : Jn w' J B f rv rs br := ⟨hf.heap h.heap, ownsRow_heap h.row fun p hp => World.grownBy.block hf p (h.row.lt p hp).2 (by simp)⟩
theorem Row.fr' {w w' : World} {v : Value} {rs : List (List UInt8)} (h : Row w v rs) (hf : Fr w w') : Row w' v rs := ownsRow_heap h fun p hp => World.grownBy.block hf p (h.lt p hp).2 (by simp)
theorem jok_len {g : JG} (h : JOk g) {rs : List (List UInt8)} {br : Bool} (e : g = some (rs, br)) : rs.length ≤ 6000000 := by
  have h1 := (h rs br e).2
  have h2 := Jm.forms_count rs
  omega

theorem wp_region_cls {P : Program} {D : World → Prop} {id : Nat} {Q : Exit → Act → World → Prop} {a : Act} {w : World} {l : List Oper} (hm : P.follows .mixedOrders = true) (hB : Region.lexB .any l.toArray = true) (hC : D w.drew)
    (h : wpQuiet P l.toArray D (fun a' => ∀ w', D w' → Q .normal a' w') l a) : (Code.region id l.toArray true).wp P Q a w :=
  wp_region_quiet hm hB hC (by simpa using h)
/-! ### Pairs of calls -/
theorem ls_lose {U : Thing} {W w : World} {jv kv : Value} {B R n : Nat} {s : RS} {g : JG} {m : Int} (h : MS U W w jv kv B R n { s with lost := m.toNat } s g g) (hg : Good s) (hj : JOk g) (hm : m ≤ 9223372036854775807) :
    Calls Tryd.prog 21 #[.pointer (some ⟨R, 0, none⟩), .int .i64 m] w fun e w' => e = .returned (.tuple #[]) ∧ LS U W w' jv kv B R n { s with lost := m.toNat } g := by
  refine (Has.rdisk (h.turn) (r := .returned (.tuple #[])) (n' := n) (s' := { s with lost := m.toNat }) fun U' hU => hU.qlose m).mono ?_
  rintro e w' ⟨rfl, h2⟩
  exact ⟨rfl, good_lost hg _ (by omega), hj, h2.turn⟩
theorem ls_start {U : Thing} {W w : World} {jv kv : Value} {B R n : Nat} {s : RS} {g : JG} (h : MS U W w jv kv B R n { s with down := false } s g g) (hg : Good s) (hj : JOk g) :
    Calls Tryd.prog 27 #[.pointer (some ⟨R, 0, none⟩)] w fun e w' => e = .returned (.tuple #[]) ∧ LS U W w' jv kv B R n { s with down := false } g := by
  refine (Has.rdisk (h.turn) (r := .returned (.tuple #[])) (n' := n) (s' := { s with down := false }) fun U' hU => hU.qstart).mono ?_
  rintro e w' ⟨rfl, h2⟩
  exact ⟨rfl, good_down hg _, hj, h2.turn⟩
theorem ls_arm {U : Thing} {W w : World} {jv kv : Value} {B R n : Nat} {s : RS} {g : JG} {m : Int} {v : Value} {ks : List Int} (h : MS U W w jv kv B R n (armS s m ks) s g g) (hg : Good s) (hj : JOk g) (hm : m ≤ 9223372036854775807) (hk : Ints W v ks) (hl : ks.length ≤ 60) :
    Calls Tryd.prog 23 #[.pointer (some ⟨R, 0, none⟩), .int .i64 m, v] w fun e w' => e = .returned (.tuple #[]) ∧ LS U W w' jv kv B R n (armS s m ks) g := by
  refine (Has.rdisk (h.turn) (r := .returned (.tuple #[])) (n' := n) (s' := armS s m ks) fun U' hU => hU.qarm m hk hl).mono ?_
  rintro e w' ⟨rfl, h2⟩
  exact ⟨rfl, good_arm hg m hm ks hl, hj, h2.turn⟩
theorem ls_crash {U : Thing} {W w : World} {jv kv : Value} {B R n : Nat} {s : RS} {g : JG} {v : Value} {ks : List Int} (h : MS U W w jv kv B R n (crashS s ks) s g g) (hg : Good s) (hj : JOk g) (hn : n ≤ 48000) (hk : Ints W v ks) (hl : ks.length ≤ 60) :
    Calls Tryd.prog 25 #[.pointer (some ⟨R, 0, none⟩), v] w fun e w' => e = .returned (.tuple #[]) ∧ LS U W w' jv kv B R n (crashS s ks) g := by
  refine (Has.rdisk (h.turn) (r := .returned (.tuple #[])) (n' := n) (s' := crashS s ks) fun U' hU => hU.qcrash hg (by omega) hk hl).mono ?_
  rintro e w' ⟨rfl, h2⟩
  exact ⟨rfl, good_crash hg ks, hj, h2.turn⟩
theorem ls_open {U : Thing} {W w : World} {jv kv : Value} {B R n : Nat} {s s1 : RS} {E : Int} {g g1 : JG} (h : MS U W w jv kv B R n s1 s g1 g) (ho : OpenG s 3 E s1 g1) (hg : Good s) (hn : n ≤ 48000) :
    Calls Tryd.prog 13 #[.pointer (some ⟨R, 0, none⟩), .int .i64 3] w fun e w' => ∃ kv', e = .returned (.tuple #[kv', .int .i64 E]) ∧ LS U W w' jv kv' B R (n + 1400) s1 g1 := by
  refine (Has.ropen3 h.turn.rleave hg hn).mono ?_
  rintro e w' ⟨kv', E', s', g', ho', rfl, h2⟩
  obtain ⟨rfl, rfl, rfl⟩ := ho.unique ho'
  obtain ⟨h3, h4⟩ := ho.ok hg
  exact ⟨kv', rfl, h3, h4, h2.turn⟩
theorem ls_sync {U : Thing} {W w : World} {J K B R n : Nat} {s : RS} {rs : List (List UInt8)} {br : Bool} (h : MS U W w (.pointer (some ⟨J, 0, none⟩)) (.pointer (some ⟨K, 0, none⟩)) B R n (syS s 3 br) s (syG s 3 rs br) (some (rs, br))) (hg : Good s) (hj : JOk (some (rs, br))) (hn : n ≤ 48000) :
    Calls Tryd.prog 19 #[.pointer (some ⟨K, 0, none⟩)] w fun e w' => e = .returned (.int .i64 (syE s 3 br)) ∧ LS U W w' (.pointer (some ⟨J, 0, none⟩)) (.pointer (some ⟨K, 0, none⟩)) B R (n + 1400) (syS s 3 br) (syG s 3 rs br) := by
  refine (Has.rsync3 h.turn hg hn).mono ?_
  rintro e w' ⟨rfl, h2⟩
  obtain ⟨h3, h4⟩ := sy_ok hg 3 hj
  exact ⟨rfl, h3, h4, h2.turn⟩
theorem ls_append {U : Thing} {W w : World} {J K B R n : Nat} {s : RS} {rs : List (List UInt8)} {br : Bool} {r : List UInt8} (h : MS U W w (.pointer (some ⟨J, 0, none⟩)) (.pointer (some ⟨K, 0, none⟩)) B R n (apS s 3 rs br r) s (apG s 3 rs br r) (some (rs, br))) (hg : Good s) (hj : JOk (some (rs, br))) (hn : n ≤ 48000) (hr : r.length ≤ 200) :
    Calls Tryd.prog 17 #[.pointer (some ⟨K, 0, none⟩), .string (S r)] w fun e w' => e = .returned (.int .i64 (apE s 3 rs br r)) ∧ LS U W w' (.pointer (some ⟨J, 0, none⟩)) (.pointer (some ⟨K, 0, none⟩)) B R (n + 1400) (apS s 3 rs br r) (apG s 3 rs br r) := by
  refine (Has.rappend3 h.turn hg hn hj r hr).mono ?_
  rintro e w' ⟨rfl, h2⟩
  obtain ⟨h3, h4⟩ := ap_ok hg 3 r hj hr
  exact ⟨rfl, h3, h4, h2.turn⟩
theorem sy_some (s : RS) (f : Nat) (rs : List (List UInt8)) (br : Bool) : ∃ b, syG s f rs br = some (rs, b) := by
  unfold syG; split
  · exact ⟨_, rfl⟩
  · exact ⟨_, rfl⟩
theorem ap_some (s : RS) (f : Nat) (rs : List (List UInt8)) (br : Bool) (r : List UInt8) : ∃ qs b, apG s f rs br r = some (qs, b) := by
  unfold apG; split
  · exact ⟨_, _, rfl⟩
  · split
    · exact ⟨_, _, rfl⟩
    · exact ⟨_, _, rfl⟩
end Go.Proofs.YtjcajgcfkidbkaaDoor
