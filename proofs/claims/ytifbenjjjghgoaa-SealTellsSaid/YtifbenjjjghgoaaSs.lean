/-
  The law's small.
-/
import Derived.Test.YtifbenjjjghgoaaSf
namespace Go.Proofs.Ytifbenjjjghgoaa
open Go.RowKit Go.MapKept Go.Maps Go.WideMaps

theorem sign1 {W w : World} {B : Nat} {U : Thing} (h : Has W w ((RingT B []).sep U)) :
    Calls Try.prog 11 #[.pointer (some ⟨B, 0, none⟩), .int .i64 3, .string ⟨#[97]⟩] w fun r w' => r = .returned (.agg #[.int .i64 3, .string ⟨#[97]⟩, .int .i64 0]) ∧ Has W w' ((RingT B [(3, [97])]).sep U) :=
  (h.sign 3 [97] (by decide) (by decide)).mono fun _ _ ⟨he, hh⟩ => ⟨he.trans (by rfl), hh⟩
theorem sign2 {W w : World} {B : Nat} {U : Thing} (h : Has W w ((RingT B [(3, [97])]).sep U)) :
    Calls Try.prog 11 #[.pointer (some ⟨B, 0, none⟩), .int .i64 4, .string ⟨#[97]⟩] w fun r w' => r = .returned (.agg #[.int .i64 4, .string ⟨#[97]⟩, .int .i64 1]) ∧ Has W w' ((RingT B [(3, [97]), (4, [97])]).sep U) :=
  (h.sign 4 [97] (by decide) (by decide)).mono fun _ _ ⟨he, hh⟩ => ⟨he.trans (by rfl), hh⟩
theorem sign3 {W w : World} {B : Nat} {U : Thing} (h : Has W w ((RingT B [(3, [97]), (4, [97])]).sep U)) :
    Calls Try.prog 11 #[.pointer (some ⟨B, 0, none⟩), .int .i64 3, .string ⟨#[97]⟩] w fun r w' => r = .returned (.agg #[.int .i64 3, .string ⟨#[97]⟩, .int .i64 0]) ∧ Has W w' ((RingT B [(3, [97]), (4, [97])]).sep U) :=
  (h.sign 3 [97] (by decide) (by decide)).mono fun _ _ ⟨he, hh⟩ => ⟨he.trans (by rfl), hh⟩
theorem sign4 {W w : World} {B : Nat} {U : Thing} (h : Has W w ((RingT B [(3, [97]), (4, [97])]).sep U)) :
    Calls Try.prog 11 #[.pointer (some ⟨B, 0, none⟩), .int .i64 200, .string ⟨#[97]⟩] w fun r w' => r = .returned (.agg #[.int .i64 0, .string ⟨#[]⟩, .int .i64 0]) ∧ Has W w' ((RingT B [(3, [97]), (4, [97])]).sep U) :=
  (h.sign 200 [97] (by decide) (by decide)).mono fun _ _ ⟨he, hh⟩ => ⟨he.trans (by rfl), hh⟩
theorem valid1 {W w : World} {B : Nat} {U : Thing} (h : Has W w ((RingT B [(3, [97]), (4, [97])]).sep U)) :
    Calls Try.prog 13 #[.pointer (some ⟨B, 0, none⟩), .agg #[.int .i64 3, .string ⟨#[97]⟩, .int .i64 0]] w fun r w' => r = .returned (.bool true) ∧ Fr w w' :=
  (h.valid (3, [97], 0) (by decide)).mono fun _ _ ⟨he, hh⟩ => ⟨he.trans (by rfl), hh⟩
theorem valid2 {W w : World} {B : Nat} {U : Thing} (h : Has W w ((RingT B [(3, [97]), (4, [97])]).sep U)) :
    Calls Try.prog 13 #[.pointer (some ⟨B, 0, none⟩), .agg #[.int .i64 3, .string ⟨#[97]⟩, .int .i64 1]] w fun r w' => r = .returned (.bool false) ∧ Fr w w' :=
  (h.valid (3, [97], 1) (by decide)).mono fun _ _ ⟨he, hh⟩ => ⟨he.trans (by rfl), hh⟩
theorem valid3 {W w : World} {B : Nat} {U : Thing} (h : Has W w ((RingT B [(3, [97]), (4, [97])]).sep U)) :
    Calls Try.prog 13 #[.pointer (some ⟨B, 0, none⟩), .agg #[.int .i64 3, .string ⟨#[98]⟩, .int .i64 0]] w fun r w' => r = .returned (.bool false) ∧ Fr w w' :=
  (h.valid (3, [98], 0) (by decide)).mono fun _ _ ⟨he, hh⟩ => ⟨he.trans (by rfl), hh⟩
theorem all1 {W w : World} {B : Nat} {U : Thing} (h : Has W w ((RingT B [(3, [97]), (4, [97])]).sep U)) :
    Calls Try.prog 18 #[.pointer (some ⟨B, 0, none⟩)] w fun r w' => ∃ a c, r = .returned (.slice a 2 c) ∧ Fr w w' :=
  (h.all (by decide)).mono fun _ _ ⟨v, he, ho, hf⟩ => by
    obtain ⟨a, c, rfl⟩ := row_form ho
    exact ⟨a, c, he, hf⟩

set_option maxHeartbeats 4000000 in
set_option maxRecDepth 100000 in
theorem small_any (w : World) : Calls Try.prog 7 #[] w fun e w' => e = .returned (.bool true) ∧ Fr w w' := by
  go_enter Try.func7, Try.ntmps7
  go_upto_region 4 with (go_at_call 9; refine ((Has.here w).ring).mono ?_; rintro e w1 ⟨B, rfl, h1⟩)
  have H1 := Lib.hid h1
  clear h1
  go_upto_region 5 with (go_at_call 11; refine (sign1 H1.out).mono ?_; rintro e w2 ⟨rfl, h2⟩)
  have H2 := Lib.hid ((h2.box 24 #[.int .i64 3, .string ⟨#[97]⟩, .int .i64 0]).turn)
  clear h2 H1
  generalize (w2.alloc (.cells #[.int .i64 3, .string ⟨#[97]⟩, .int .i64 0] 24)) = w3 at *
  go_upto_region 6 with (go_at_call 11; refine (sign2 H2.out).mono ?_; rintro e w4 ⟨rfl, h3⟩)
  have H3 := Lib.hid ((h3.box 24 #[.int .i64 4, .string ⟨#[97]⟩, .int .i64 1]).turn)
  clear h3 H2
  generalize (w4.alloc (.cells #[.int .i64 4, .string ⟨#[97]⟩, .int .i64 1] 24)) = w5 at *
  go_upto_region 7 with (go_at_call 11; refine (sign3 H3.out).mono ?_; rintro e w6 ⟨rfl, h4⟩)
  have H4 := Lib.hid ((h4.box 24 #[.int .i64 3, .string ⟨#[97]⟩, .int .i64 0]).turn)
  clear h4 H3
  generalize (w6.alloc (.cells #[.int .i64 3, .string ⟨#[97]⟩, .int .i64 0] 24)) = w7 at *
  go_upto_region 8 with (go_at_call 11; refine (sign4 H4.out).mono ?_; rintro e w8 ⟨rfl, h5⟩)
  have H5 := Lib.hid ((h5.box 24 #[.int .i64 0, .string ⟨#[]⟩, .int .i64 0]).turn)
  clear h5 H4
  generalize (w8.alloc (.cells #[.int .i64 0, .string ⟨#[]⟩, .int .i64 0] 24)) = w9 at *
  have b5 := H5.out.right.boxed
  have b4 := H5.out.right.right.boxed
  have b3 := H5.out.right.right.right.boxed
  have b2 := H5.out.right.right.right.right.boxed
  have x50 : w9.cell? ⟨w8.heap.size, 0, none⟩ = some (.int .i64 0) := cellOf b5 rfl
  have x51 : w9.cell? ⟨w8.heap.size, 1, none⟩ = some (.string ⟨#[]⟩) := cellOf b5 rfl
  have x52 : w9.cell? ⟨w8.heap.size, 2, none⟩ = some (.int .i64 0) := cellOf b5 rfl
  have x40 : w9.cell? ⟨w6.heap.size, 0, none⟩ = some (.int .i64 3) := cellOf b4 rfl
  have x41 : w9.cell? ⟨w6.heap.size, 1, none⟩ = some (.string ⟨#[97]⟩) := cellOf b4 rfl
  have x42 : w9.cell? ⟨w6.heap.size, 2, none⟩ = some (.int .i64 0) := cellOf b4 rfl
  have x30 : w9.cell? ⟨w4.heap.size, 0, none⟩ = some (.int .i64 4) := cellOf b3 rfl
  have x31 : w9.cell? ⟨w4.heap.size, 1, none⟩ = some (.string ⟨#[97]⟩) := cellOf b3 rfl
  have x32 : w9.cell? ⟨w4.heap.size, 2, none⟩ = some (.int .i64 1) := cellOf b3 rfl
  have x20 : w9.cell? ⟨w2.heap.size, 0, none⟩ = some (.int .i64 3) := cellOf b2 rfl
  have x21 : w9.cell? ⟨w2.heap.size, 1, none⟩ = some (.string ⟨#[97]⟩) := cellOf b2 rfl
  have x22 : w9.cell? ⟨w2.heap.size, 2, none⟩ = some (.int .i64 0) := cellOf b2 rfl
  clear b2 b3 b4 b5
  go_upto_region 9 with fail
  go_wp2_with (first
    | (go_at_call 18; refine (all1 (((H5.out.fr hf1).fr hf2).fr hf3)).mono ?_; rintro e w13 ⟨aa, cc, rfl, hf4⟩)
    | (go_at_call 13; refine (valid3 ((H5.out.fr hf1).fr hf2)).mono ?_; rintro e w12 ⟨rfl, hf3⟩)
    | (go_at_call 13; refine (valid2 (H5.out.fr hf1)).mono ?_; rintro e w11 ⟨rfl, hf2⟩)
    | (go_at_call 13; refine (valid1 H5.out).mono ?_; rintro e w10 ⟨rfl, hf1⟩))
  go_ret
  exact ⟨rfl, H5.out.toFr.trans (hf1.trans (hf2.trans (hf3.trans hf4)))⟩
end Go.Proofs.Ytifbenjjjghgoaa
