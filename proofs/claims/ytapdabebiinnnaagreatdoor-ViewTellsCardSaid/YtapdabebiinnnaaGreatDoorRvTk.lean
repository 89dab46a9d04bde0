/-
  ViewTells: for at most 20 Says with texts of at most 300 bytes whose signatures are accepted one after the other, keys, and arguments, all functions return what the reference returns; and so does Read of any string of at most 2000 bytes.
  Conditions: the row's own: the three tables of Go's library that it lists read as their initialisers lay them, which the card ties to the program's text.
-/
import Derived.Test.YtapdabebiinnnaaGreatDoorCards
import Derived.Test.YtapdabebiinnnaaGreatDoorTie
import Derived.Test.YtapdabebiinnnaaGreatDoorVnr
import Derived.ProofKit
import Derived.OpenShut
import Derived.Deep.DeepHandedRow
import Derived.Deep.Slices
import Derived.Deep.Fields
import Derived.ChangeSame
import Derived.Lib.LaidTab
import Derived.Lib.SmallJoins
import Derived.Test.YtapdabebiinnnaaGreatDoorYdz
namespace Go.Proofs.YtapdabebiinnnaaGreatDoor
open Go.ChangeShapes Go.WideShapes Go.ChangeAt Go.RowKit Go.Joins Go.Deep
open Go.ChangeMaps (open_string)

theorem ownKnobNone : ownKnob Tryz.prog.godebug = none := by kernel_rfl
theorem laidOut : laidOutB Tryz.prog = true := by kernel_rfl
theorem cellsSay : Tryz.prog.cellsOf 37 = 7 := by kernel_rfl

theorem laidMet_tail {P : Program} {x : String × DataW Unit} {rest : List (String × DataW Unit)} {W : World} (h : laidMet P (x :: rest) W) : laidMet P rest W := by
  obtain ⟨ps, ⟨g', t', cs, fuel, p, q, hg', ht', hvar, hd, hr, rfl⟩, hn, hc⟩ := h
  exact ⟨q, hr, (List.nodup_append.1 hn).2.1, fun b off hm => hc b off (List.mem_append_right _ hm)⟩
theorem gTab : Tryz.prog.globalNamed "internal/strconv.uint64pow10" = some 0 := by kernel_rfl
theorem gTabType : (Tryz.prog.globals[0]?).map (·.type) = some 149 := by kernel_rfl
theorem cellsTab : Tryz.prog.cellsOf 149 = 20 := by kernel_rfl
theorem cellsU64 : Tryz.prog.cellsOf 139 = 1 := by kernel_rfl
theorem table {W : World} (h : laidMetH Tryz.prog [("math/bits.deBruijn32tab", Rows.laid_math_bits_deBruijn32tab), ("math/bits.deBruijn64tab", Rows.laid_math_bits_deBruijn64tab), ("internal/strconv.uint64pow10", Rows.laid_internal_strconv_uint64pow10)] W) : Tab W :=
  Lib.tabIs_of_head (rest := []) gTab gTabType Tryz.underlying149 Tryz.underlying139 cellsU64 cellsTab (laidMet_tail (laidMet_tail h))


theorem cellsIntV : Tryz.prog.cellsOf 3 = 1 := by kernel_rfl
theorem cellsStr' : Tryz.prog.cellsOf 9 = 1 := by kernel_rfl
theorem cellsClm : Tryz.prog.cellsOf 35 = 4 := by kernel_rfl
theorem seven {α : Type} {l : List α} (h : l.length = 7) : ∃ a b c d e f g, l = [a, b, c, d, e, f, g] := by
  match l, h with
  | [a, b, c, d, e, f, g], _ => exact ⟨a, b, c, d, e, f, g, rfl⟩
/-- A Say that was read. -/
theorem say_at {H : Type} {enc : TypeId × Value → H} {W : World} {base n base2 : Nat} {spare : Nat → Bool} {held : Bool} {b o : Nat} {i : Nat} {cs : List Value} {y : DataW H × List MemPlace}
    (hc : W.cells? base2 ((⟨b, o, none⟩ : Addr).add (i * 7)) 7 = some cs) (h : DataW.trod enc Tryz.prog W base spare held n 37 cs = some y) :
    ∃ u : Sy, SyIn W b (o + i * 7) u ∧ u.ok := by
  obtain ⟨_, hlen, hat⟩ := World.cells?_some hc
  obtain ⟨v0, v1, v2, v3, v4, v5, v6, rfl⟩ := seven hlen
  obtain ⟨ys, n1, _, _, _, hyl, hf⟩ := DataW.trod_struct Tryz.underlying37 h
  have hyl : ys.length = 4 := hyl
  have g0 : DataW.trod enc Tryz.prog W base spare held n1 3 [v0] = some (ys[0]'(by omega)) := by
    have g : DataW.trod enc Tryz.prog W base spare held n1 3 (([v0, v1, v2, v3, v4, v5, v6].drop 0).take (Tryz.prog.cellsOf 3)) = ys[0]? := hf 0 _ rfl
    rw [cellsIntV, List.getElem?_eq_getElem (by omega)] at g; exact g
  have g1 : DataW.trod enc Tryz.prog W base spare held n1 35 [v1, v2, v3, v4] = some (ys[1]'(by omega)) := by
    have g : DataW.trod enc Tryz.prog W base spare held n1 35 (([v0, v1, v2, v3, v4, v5, v6].drop 1).take (Tryz.prog.cellsOf 35)) = ys[1]? := hf 1 _ rfl
    rw [cellsClm, List.getElem?_eq_getElem (by omega)] at g; exact g
  have g2 : DataW.trod enc Tryz.prog W base spare held n1 9 [v5] = some (ys[2]'(by omega)) := by
    have g : DataW.trod enc Tryz.prog W base spare held n1 9 (([v0, v1, v2, v3, v4, v5, v6].drop 5).take (Tryz.prog.cellsOf 9)) = ys[2]? := hf 2 _ rfl
    rw [cellsStr', List.getElem?_eq_getElem (by omega)] at g; exact g
  have g3 : DataW.trod enc Tryz.prog W base spare held n1 3 [v6] = some (ys[3]'(by omega)) := by
    have g : DataW.trod enc Tryz.prog W base spare held n1 3 (([v0, v1, v2, v3, v4, v5, v6].drop 6).take (Tryz.prog.cellsOf 3)) = ys[3]? := hf 3 _ rfl
    rw [cellsIntV, List.getElem?_eq_getElem (by omega)] at g; exact g
  obtain ⟨zs, n2, _, _, _, hzl, hz⟩ := DataW.trod_struct Tryz.underlying35 g1
  have hzl : zs.length = 4 := hzl
  have k0 : DataW.trod enc Tryz.prog W base spare held n2 3 [v1] = some (zs[0]'(by omega)) := by
    have g : DataW.trod enc Tryz.prog W base spare held n2 3 (([v1, v2, v3, v4].drop 0).take (Tryz.prog.cellsOf 3)) = zs[0]? := hz 0 _ rfl
    rw [cellsIntV, List.getElem?_eq_getElem (by omega)] at g; exact g
  have k1 : DataW.trod enc Tryz.prog W base spare held n2 3 [v2] = some (zs[1]'(by omega)) := by
    have g : DataW.trod enc Tryz.prog W base spare held n2 3 (([v1, v2, v3, v4].drop 1).take (Tryz.prog.cellsOf 3)) = zs[1]? := hz 1 _ rfl
    rw [cellsIntV, List.getElem?_eq_getElem (by omega)] at g; exact g
  have k2 : DataW.trod enc Tryz.prog W base spare held n2 3 [v3] = some (zs[2]'(by omega)) := by
    have g : DataW.trod enc Tryz.prog W base spare held n2 3 (([v1, v2, v3, v4].drop 2).take (Tryz.prog.cellsOf 3)) = zs[2]? := hz 2 _ rfl
    rw [cellsIntV, List.getElem?_eq_getElem (by omega)] at g; exact g
  have k3 : DataW.trod enc Tryz.prog W base spare held n2 9 [v4] = some (zs[3]'(by omega)) := by
    have g : DataW.trod enc Tryz.prog W base spare held n2 9 (([v1, v2, v3, v4].drop 3).take (Tryz.prog.cellsOf 9)) = zs[3]? := hz 3 _ rfl
    rw [cellsStr', List.getElem?_eq_getElem (by omega)] at g; exact g
  obtain ⟨x0, e0, _, w0⟩ := DataW.trod_int Tryz.underlying3 g0
  obtain ⟨x1, e1, _, w1⟩ := DataW.trod_int Tryz.underlying3 k0
  obtain ⟨x2, e2, _, w2⟩ := DataW.trod_int Tryz.underlying3 k1
  obtain ⟨x3, e3, _, w3⟩ := DataW.trod_int Tryz.underlying3 k2
  obtain ⟨x4, e4, _, w4⟩ := DataW.trod_string Tryz.underlying9 k3
  obtain ⟨x5, e5, _, w5⟩ := DataW.trod_string Tryz.underlying9 g2
  obtain ⟨x6, e6, _, w6⟩ := DataW.trod_int Tryz.underlying3 g3
  simp only [List.cons.injEq, and_true] at e0 e1 e2 e3 e4 e5 e6
  subst e0 e1 e2 e3 e4 e5 e6
  have ha : ∀ j, ((⟨b, o, none⟩ : Addr).add (i * 7)).add j = ⟨b, o + i * 7 + j, none⟩ := fun j => by unfold Addr.add; repeat' split <;> simp_all [Nat.add_assoc]
  have q0 := hat 0 (by omega)
  have q1 := hat 1 (by omega)
  have q2 := hat 2 (by omega)
  have q3 := hat 3 (by omega)
  have q4 := hat 4 (by omega)
  have q5 := hat 5 (by omega)
  have q6 := hat 6 (by omega)
  rw [ha] at q0 q1 q2 q3 q4 q5 q6
  have hs4 : x4.data.toList.length ≤ 9223372036854775807 := by rw [Array.length_toList]; exact (show x4.size ≤ 9223372036854775807 by unfold maxLen at w4; omega)
  have hs5 : x5.data.toList.length ≤ 9223372036854775807 := by rw [Array.length_toList]; exact (show x5.size ≤ 9223372036854775807 by unfold maxLen at w5; omega)
  refine ⟨(x0, ⟨x1, x2, x3, x4.data.toList⟩, x5.data.toList, x6), ⟨q0, q1, q2, q3, ?_, ?_, q6⟩, bounds_i64 w0, ⟨bounds_i64 w1, bounds_i64 w2, bounds_i64 w3, hs4⟩, hs5, bounds_i64 w6⟩
  · rw [q4]; show some (Value.string x4) = some (Value.string (S x4.data.toList)); rw [← S_eta]
  · rw [q5]; show some (Value.string x5) = some (Value.string (S x5.data.toList)); rw [← S_eta]
theorem says_sl {H : Type} {enc : TypeId × Value → H} {W : World} {base fuel : Nat} {spare : Nat → Bool} {held : Bool} {v : Value} {x : DataW H × List MemPlace}
    (h : DataW.trod enc Tryz.prog W base spare held fuel 22 [v] = some x) : ∃ l : List Sy, SySl W v l ∧ SArg l := by
  rcases open_slice Tryz.underlying22 h with ⟨hcs, _⟩ | ⟨a, len, cap, m, n, D, Pl, hcs, _, hl, hm, hmm, _, hi⟩
  · obtain rfl : v = .slice none 0 0 := by simpa using hcs
    exact ⟨[], .inl ⟨rfl, _, _, rfl⟩, by simp, by simp⟩
  · obtain rfl : v = .slice (some a) len cap := by simpa using hcs
    have hlm : len ≤ m := by rw [hmm]; split <;> omega
    rw [cellsSay] at hi
    rcases Nat.eq_zero_or_pos len with h0 | h0
    · subst h0; exact ⟨[], .inl ⟨rfl, _, _, rfl⟩, by simp, by simp⟩
    · obtain ⟨b, o, spot⟩ := a
      obtain ⟨cs0, hc0, ht0⟩ := hi 0 (by omega)
      have hspot : spot = none := by
        obtain ⟨_, hln, hat⟩ := World.cells?_some hc0
        obtain ⟨v0, v1, v2, v3, v4, v5, v6, rfl⟩ := seven hln
        have := hat 0 (by omega)
        simpa [Addr.add] using World.cell?_spot this
      subst hspot
      have hex : ∀ k : Fin len, ∃ u : Sy, SyIn W b (o + k.val * 7) u ∧ u.ok := fun k => by
        obtain ⟨cs, hc, ht⟩ := hi k.val (by omega)
        exact say_at hc ht
      have hch : ∃ f : Fin len → Sy, ∀ k, SyIn W b (o + k.val * 7) (f k) ∧ (f k).ok := ⟨fun k => (hex k).choose, fun k => (hex k).choose_spec⟩
      obtain ⟨f, hf⟩ := hch
      refine ⟨List.ofFn f, .inr ⟨b, o, cap, by simp, fun k hk => ?_⟩, by simp; unfold maxLen at hm; omega, fun e he => ?_⟩
      · rw [List.getElem_ofFn]
        exact (hf ⟨k, by simpa using hk⟩).1
      · obtain ⟨k, rfl⟩ := List.mem_ofFn.1 he
        exact (hf k).2
/-- A world for the witness: the settled one, the tables holding what their initialisers lay. -/
noncomputable def laidWorld (os : Os) : World :=
  let h := (World.holding Tryz.prog os ⟨#[], #[], []⟩).heap
  let lay (cs : Array Value) : Obj → Obj := fun | .cells _ t frozen => .cells cs t frozen | o => o
  { World.holding Tryz.prog os ⟨#[], #[], []⟩ with heap := ((h.modify 0 (lay #[.int .u64 1, .int .u64 10, .int .u64 100, .int .u64 1000, .int .u64 10000, .int .u64 100000, .int .u64 1000000, .int .u64 10000000, .int .u64 100000000, .int .u64 1000000000, .int .u64 10000000000, .int .u64 100000000000, .int .u64 1000000000000, .int .u64 10000000000000, .int .u64 100000000000000, .int .u64 1000000000000000, .int .u64 10000000000000000, .int .u64 100000000000000000, .int .u64 1000000000000000000, .int .u64 10000000000000000000])).modify 1 (lay #[.int .u8 0, .int .u8 1, .int .u8 28, .int .u8 2, .int .u8 29, .int .u8 14, .int .u8 24, .int .u8 3, .int .u8 30, .int .u8 22, .int .u8 20, .int .u8 15, .int .u8 25, .int .u8 17, .int .u8 4, .int .u8 8, .int .u8 31, .int .u8 27, .int .u8 13, .int .u8 23, .int .u8 21, .int .u8 19, .int .u8 16, .int .u8 7, .int .u8 26, .int .u8 12, .int .u8 18, .int .u8 6, .int .u8 11, .int .u8 5, .int .u8 10, .int .u8 9])).modify 2 (lay #[.int .u8 0, .int .u8 1, .int .u8 56, .int .u8 2, .int .u8 57, .int .u8 49, .int .u8 28, .int .u8 3, .int .u8 61, .int .u8 58, .int .u8 42, .int .u8 50, .int .u8 38, .int .u8 29, .int .u8 17, .int .u8 4, .int .u8 62, .int .u8 47, .int .u8 59, .int .u8 36, .int .u8 45, .int .u8 43, .int .u8 51, .int .u8 22, .int .u8 53, .int .u8 39, .int .u8 33, .int .u8 30, .int .u8 24, .int .u8 18, .int .u8 12, .int .u8 5, .int .u8 63, .int .u8 55, .int .u8 48, .int .u8 27, .int .u8 60, .int .u8 41, .int .u8 37, .int .u8 16, .int .u8 46, .int .u8 35, .int .u8 44, .int .u8 21, .int .u8 52, .int .u8 32, .int .u8 23, .int .u8 11, .int .u8 54, .int .u8 26, .int .u8 40, .int .u8 15, .int .u8 34, .int .u8 20, .int .u8 31, .int .u8 10, .int .u8 25, .int .u8 14, .int .u8 19, .int .u8 9, .int .u8 13, .int .u8 8, .int .u8 7, .int .u8 6]) }
end Go.Proofs.YtapdabebiinnnaaGreatDoor
namespace Go.Proofs.YtapdabebiinnnaaGreatDoor.lawViewTells
open Go.ChangeShapes Go.WideShapes Go.ChangeAt Go.RowKit
open Go.ChangeMaps (open_string)

set_option maxRecDepth 100000 in
theorem contract (H : Type) (enc : TypeId × Value → H) (W : World) (base : Nat) (args : Array Value) (ds gs : List (DataW H)) (before : List MemPlace)
    (hval : ∀ (j : Nat) t v, Tryz.f3.params[j]? = some t → args[j]? = some v → Value.okWide Tryz.prog W .any base t v)
    (hW : DataW.Whole enc Tryz.prog Tryz.f3.params.toList Rows.viewTellsSpec.vars false W args.toList ds gs before) (hL : laidMetH Tryz.prog Rows.viewTellsRow.laid W) :
    Calls Tryz.prog 3 args W fun e W' => ∃ v, e = .returned v ∧ Rows.viewTellsSpec.post enc Tryz.prog Tryz.f3 false true false false W args v W' := by
  have hW' := hW
  have hlt : ∀ x ∈ before, x.block < W.heap.size := fun x hx => hW.lt x hx
  obtain ⟨p, q, hA0, hV, rfl, hfz, hnd⟩ := hW
  have hA : DataW.TrodAll enc Tryz.prog W 0 (fun _ => true) true Tryz.f3.params.toList args.toList ds p := hA0
  rw [Tryz.params3] at hA hval
  obtain ⟨al⟩ := args
  change DataW.TrodAll enc Tryz.prog W 0 (fun _ => true) true [22, 3, 3, 9, 9] al ds p at hA
  obtain ⟨v0, al0, D0, ds0, p0, q0, rfl, rfl, rfl, h0, t0⟩ := trodAll_cons hA
  obtain ⟨v1, al1, D1, ds1, p1, q1, rfl, rfl, rfl, h1, t1⟩ := trodAll_cons t0
  obtain ⟨v2, al2, D2, ds2, p2, q2, rfl, rfl, rfl, h2, t2⟩ := trodAll_cons t1
  obtain ⟨v3, al3, D3, ds3, p3, q3, rfl, rfl, rfl, h3, t3⟩ := trodAll_cons t2
  obtain ⟨v4, al4, D4, ds4, p4, q4, rfl, rfl, rfl, h4, t4⟩ := trodAll_cons t3
  obtain ⟨rfl, rfl, rfl⟩ : al4 = [] ∧ ds4 = [] ∧ q4 = [] := trodAll_nil t4
  obtain ⟨rfl, rfl⟩ := trodVars_none hV
  clear hA0
  simp only [List.append_nil] at hW' hlt
  obtain ⟨a0, len0, cap0, e0⟩ := okWide_slice Tryz.underlying22 (hval 0 22 v0 rfl rfl)
  obtain ⟨fuel0, hf0⟩ := id h0
  have hg0 : DataW.trod enc Tryz.prog W 0 (fun _ => true) true fuel0 22 [v0] = some (D0, p0) := by rw [e0] at hf0 ⊢; simpa [Value.cells] using hf0
  obtain ⟨l0, hl0, ha0⟩ := says_sl hg0
  obtain ⟨n1, rfl, _, _, hn1⟩ := open_int Tryz.underlying3 (hval 1 3 v1 rfl rfl) h1
  obtain ⟨n2, rfl, _, _, hn2⟩ := open_int Tryz.underlying3 (hval 2 3 v2 rfl rfl) h2
  obtain ⟨s3, e3, _, _, hw3⟩ := open_string Tryz.underlying9 (hval 3 9 v3 rfl rfl) h3
  obtain ⟨z3, e3'⟩ : ∃ z, s3 = S z := ⟨s3.data.toList, S_eta s3⟩
  subst e3'
  subst e3
  have hz3 : z3.length ≤ 9223372036854775807 := show (S z3).size ≤ 9223372036854775807 by have h : (S z3).size ≤ maxLen := hw3; unfold maxLen at h; omega
  obtain ⟨s4, e4, _, _, hw4⟩ := open_string Tryz.underlying9 (hval 4 9 v4 rfl rfl) h4
  obtain ⟨z4, e4'⟩ : ∃ z, s4 = S z := ⟨s4.data.toList, S_eta s4⟩
  subst e4'
  subst e4
  have hz4 : z4.length ≤ 9223372036854775807 := show (S z4).size ≤ 9223372036854775807 by have h : (S z4).size ≤ maxLen := hw4; unfold maxLen at h; omega
  have walk := tells_any v0 l0 n1 n2 z3 z4 W (table hL) hl0 ha0 (bounds_i64 hn2) hz3 hz4
  refine walk.mono fun e W' ⟨he, hg⟩ => ?_
  subst he
  have hb := hg.below
  exact ⟨_, rfl, _, _, _, [], _, [], hW', trodAll_cons_mk (shut_bool Tryz.underlying4 _) trodAll_mk0, trodAll_cons_mk (Below.trod laidOut (by kernel_rfl) (of_decide_eq_true (by kernel_rfl)) h0 hb (fun x hx => hlt x (by simp [hx]))) (trodAll_cons_mk (Below.trod laidOut (by kernel_rfl) (of_decide_eq_true (by kernel_rfl)) h1 hb (fun x hx => hlt x (by simp [hx]))) (trodAll_cons_mk (Below.trod laidOut (by kernel_rfl) (of_decide_eq_true (by kernel_rfl)) h2 hb (fun x hx => hlt x (by simp [hx]))) (trodAll_cons_mk (Below.trod laidOut (by kernel_rfl) (of_decide_eq_true (by kernel_rfl)) h3 hb (fun x hx => hlt x (by simp [hx]))) (trodAll_cons_mk (Below.trod laidOut (by kernel_rfl) (of_decide_eq_true (by kernel_rfl)) h4 hb (fun x hx => hlt x (by simp [hx]))) (trodAll_mk0))))), rfl, hb.frame _, fun h => by cases h⟩

set_option maxRecDepth 100000 in
theorem laid_met (os : Os) : laidMet Tryz.prog Rows.viewTellsRow.laid ((laidWorld os).forCall (fun _ _ => 0) ⟨#[], #[.slice none 0 0, .int .i64 0, .int .i64 0, .string ByteArray.empty, .string ByteArray.empty], []⟩).memory :=
  laidMet_of_run' 8 (by kernel_rfl) (by kernel_rfl)
theorem reads (os : Os) {H : Type} (enc : TypeId × Value → H) : ∃ places, DataW.whole enc Tryz.prog ((laidWorld os).forCall (fun _ _ => 0) ⟨#[], #[.slice none 0 0, .int .i64 0, .int .i64 0, .string ByteArray.empty, .string ByteArray.empty], []⟩).memory Tryz.f3.params.toList Rows.viewTellsSpec.vars false (#[.slice none 0 0, .int .i64 0, .int .i64 0, .string ByteArray.empty, .string ByteArray.empty] : Array Value).toList 8 = some ([.nil, .lit (.int .i64 0), .lit (.int .i64 0), .lit (.string []), .lit (.string [])], [], places) :=
  ⟨[], by kernel_rfl⟩

set_option maxRecDepth 100000 in
theorem lifted (os : Os) (started : os.Started) (H : Type) (enc : TypeId × Value → H) (F : Stop.Interp) :
    ReturnsInHanded {} Tryz.checked os 3 .any ((OpenSpec.ofChange Rows.viewTellsSpec).preRow enc Tryz.prog Tryz.f3 Rows.viewTellsRow.domain false Rows.viewTellsRow.laid) (((OpenSpec.ofChange Rows.viewTellsSpec).at F).post enc Tryz.prog Tryz.f3 false true false false) := by
  obtain ⟨places, hx⟩ := reads os enc
  refine returnsInHanded_of_row (C := Tryz.checked) (s := OpenSpec.ofChange Rows.viewTellsSpec) ownKnobNone started (by kernel_rfl) Tryz.func3
    (witness_row_at (enc := enc) (C := Tryz.checked) false (laidWorld os) #[.slice none 0 0, .int .i64 0, .int .i64 0, .string ByteArray.empty, .string ByteArray.empty] rfl (by kernel_rfl) (by kernel_rfl) (by kernel_rfl)
      (OpenSpec.preRow_of_cond 8 hx (by kernel_rfl) (fun k hk => by cases hk) (by kernel_rfl) (laid_met os))) ?_
  intro W base args ds gs before hval hW _ _ _ hL _ _
  exact contract H enc W base args ds gs before hval hW hL

theorem said : Rows.ViewTellsSaid :=
  OpenClaim.holds_of_cond 3 Tryz.f3 rfl rfl rfl rfl rfl rfl rfl ⟨rfl, rfl, rfl, rfl, rfl⟩ rfl rfl rfl rfl rfl (by kernel_rfl) Tryz.func3 (by kernel_rfl)
    (of_decide_eq_true (by kernel_rfl)) (by unfold Func.isWrapper; first | (rw [if_pos (by decide +kernel)]; kernel_rfl) | (rw [if_neg (by decide +kernel)]; exact ⟨rfl, rfl⟩))
    (fun os started H enc _ F => by rw [OpenClaim.pre_eq_preRow]; exact lifted os started H enc F)

set_option maxRecDepth 100000 in
theorem plain (f : FuncId) (fn : Func) (hf : Tryz.pinned.checked.prog.funcNamed "lading/ladinglaw08.ViewTells" = some f) (hfn : Tryz.pinned.checked.prog.funcs[f]? = some fn) :
    true = Tryz.pinned.checked.prog.looks [] ∧ ∀ (j : Nat) t, fn.params[j]? = some t → Tryz.pinned.checked.prog.wantsStandIn t = false := by
  obtain rfl : f = 3 := Option.some.inj ((show Tryz.prog.funcNamed "lading/ladinglaw08.ViewTells" = some 3 by kernel_rfl).symm.trans hf) |>.symm
  obtain rfl : fn = Tryz.f3 := (Option.some.inj (Tryz.func3.symm.trans hfn)).symm
  refine ⟨by kernel_rfl, fun j t ht => ?_⟩
  rw [Tryz.params3] at ht
  have hm := Array.mem_of_getElem? ht
  simp at hm
  rcases hm with rfl | rfl | rfl <;> first | exact (show Tryz.prog.wantsStandIn 22 = false by kernel_rfl) | exact (show Tryz.prog.wantsStandIn 3 = false by kernel_rfl) | exact (show Tryz.prog.wantsStandIn 9 = false by kernel_rfl)

/-- The card. -/
theorem card : Rows.ViewTellsCardSaid :=
  Claim7.holds_tied_plain_at .later [] _ _ _ _ said (fun _ h => by cases h) (by kernel_rfl) (fun _ h => by cases h) viewTells_row_tie rfl ⟨rfl, rfl⟩ (by kernel_rfl) rfl plain (by kernel_rfl)
end Go.Proofs.YtapdabebiinnnaaGreatDoor.lawViewTells
