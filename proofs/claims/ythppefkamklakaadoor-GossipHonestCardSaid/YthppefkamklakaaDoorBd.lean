/-
  Book: Entry, Absent.
-/
import Derived.Test.YthppefkamklakaaDoorBc
namespace Go.Proofs.YthppefkamklakaaDoor
open Go.RowKit Go.MapKept Go.Maps Go.WideMaps

/-! ### Entry -/
noncomputable def enO (s : BS) (i : Int) : Option Sd := (txtO s i).map fun (t : Txt) => (s.k, textR ⟨0, i, 0, t⟩)
noncomputable def enE (s : BS) (i : Int) : Int := if (txtO s i).isSome then 0 else 4
/-- What is known of a book's entries. -/
def BS.ok (s : BS) : Prop := s.es.length ≤ 1000 ∧ ∀ t ∈ s.es, t.length ≤ 20000
theorem txtO_len {s : BS} (h : s.ok) {i : Int} {t : Txt} (ht : txtO s i = some t) : t.length ≤ 20000 := by
  obtain ⟨_, h1, h2⟩ := txtO_yes ht
  exact h.2 t (h2 ▸ List.getElem_mem h1)
theorem fits3 (k : Int) (hk : 0 ≤ k ∧ k ≤ 4) (n : Int) (hn : Wm.inInt n) (t : Int) (ht : 0 ≤ t ∧ t ≤ 1073741824) (s : Txt) (hs : s.length ≤ 20000) : C.fits ⟨k, n, t, s⟩ :=
  ⟨⟨by show -9223372036854775808 ≤ k; omega, by show k ≤ 9223372036854775807; omega⟩, hn, ⟨by show -9223372036854775808 ≤ t; omega, by show t ≤ 9223372036854775807; omega⟩, Nat.le_trans hs (by decide)⟩
/-- The result's cell of a function that returns a signature. -/
theorem Has.sgBox {W w : World} {T U : Thing} (h : Has W w (T.sep U)) : Has W (w.alloc (.cells #[.int .i64 0, .string ⟨#[]⟩, .int .i64 0] 37)) (T.sep ((BoxT 37 w.heap.size #[.int .i64 0, .string ⟨#[]⟩, .int .i64 0]).sep U)) :=
  (h.box 37 #[.int .i64 0, .string ⟨#[]⟩, .int .i64 0]).turn
set_option maxHeartbeats 2000000 in
set_option maxRecDepth 100000 in
theorem bentry {W w : World} {B R : Nat} {s : BS} {q : List Sd} {U : Thing} (h : Has W w ((BookT B R s q).sep U)) (hT : Tab W) (i : Int) (hi : Wm.inInt i) (hs : s.ok) (hq : q.length ≤ 1000000) :
    Calls Tryd.prog 21 #[.pointer (some ⟨B, 0, none⟩), .int .i64 i] w fun e w' => e = .returned (.tuple #[sgV (sgO q (enO s i)), .int .i64 (enE s i)]) ∧ Has W w' ((BookT B R s (qO q (enO s i))).sep U) := by
  have HS := Lib.hid h.sgBox
  have HT := Lib.hid hT
  have hs1 := hs.1
  cases ho : txtO s i with
  | none =>
    have HX := Lib.hid (show ∀ w' (hf : Fr (w.alloc (.cells #[.int .i64 0, .string ⟨#[]⟩, .int .i64 0] 37)) w'), Calls Tryd.prog 39 #[.pointer (some ⟨B, 0, none⟩), .int .i64 i] w' fun e w'' => e = .returned (.tuple #[.string ⟨#[]⟩, .bool false]) ∧ Fr w' w'' from fun w' hf => (btext (HS.out.fr hf) i (by omega)).mono fun _ _ ⟨he, hf⟩ => ⟨by rw [he, ho]; rfl, hf⟩)
    unfold enO enE
    rw [ho]
    clear h hT hs hs1 ho
    go_enter Tryd.func21, Tryd.ntmps21
    go_wp2_with (go_at_call 39; refine (HX.out _ (Fr.refl _)).mono ?_; rintro e w3 ⟨rfl, hf⟩
                 have H3 := Lib.hid (HS.out.fr hf)
                 have hR := H3.out.turn.boxed
                 have d0 : w3.cell? ⟨w.heap.size, 0, none⟩ = some (.int .i64 0) := cellOf hR rfl
                 have d1 : w3.cell? ⟨w.heap.size, 1, none⟩ = some (.string ⟨#[]⟩) := cellOf hR rfl
                 have d2 : w3.cell? ⟨w.heap.size, 2, none⟩ = some (.int .i64 0) := cellOf hR rfl
                 have e0 := frozenOf hR 0
                 have e1 := frozenOf hR 1
                 have e2 := frozenOf hR 2
                 clear hR)
    obtain ⟨hR, hF⟩ := sg_end H3.out (.int .i64 0) (.string ⟨#[]⟩) (.int .i64 0)
    generalize (((w3.setCell ⟨w.heap.size, 0, none⟩ (.int .i64 0)).setCell ⟨w.heap.size, 1, none⟩ (.string ⟨#[]⟩)).setCell ⟨w.heap.size, 2, none⟩ (.int .i64 0)) = w4 at *
    have k0 : w4.cell? ⟨w.heap.size, 0, none⟩ = some (.int .i64 0) := cellOf hR rfl
    have k1 : w4.cell? ⟨w.heap.size, 1, none⟩ = some (.string ⟨#[]⟩) := cellOf hR rfl
    have k2 : w4.cell? ⟨w.heap.size, 2, none⟩ = some (.int .i64 0) := cellOf hR rfl
    refine bodyPost_ret (v := .tuple #[sgV (0, [], 0), .int .i64 4]) (by simp [results, Tryd.results21, go_sem, k0, k1, k2]; rfl) rfl ⟨rfl, ?_⟩
    exact hF
  | some t =>
    have hlt := txtO_len hs ho
    have HX := Lib.hid (show ∀ w' (hf : Fr (w.alloc (.cells #[.int .i64 0, .string ⟨#[]⟩, .int .i64 0] 37)) w'), Calls Tryd.prog 39 #[.pointer (some ⟨B, 0, none⟩), .int .i64 i] w' fun e w'' => e = .returned (.tuple #[.string (S t), .bool true]) ∧ Fr w' w'' from fun w' hf => (btext (HS.out.fr hf) i (by omega)).mono fun _ _ ⟨he, hf⟩ => ⟨by rw [he, ho]; rfl, hf⟩)
    have HC := Lib.hid (fits3 0 (by decide) i hi 0 (by decide) t hlt)
    unfold enO enE
    rw [ho]
    simp only [Option.map_some, Option.isSome_some, if_true, sgO, qO]
    clear h hT hs hs1 ho hlt
    go_enter Tryd.func21, Tryd.ntmps21
    go_wp2_with (first
      | (go_at_call 39; refine (HX.out _ (Fr.refl _)).mono ?_; rintro e w2 ⟨rfl, hf⟩)
      | (go_at_call 40; refine (bsign (HS.out.fr hf) HT.out ⟨0, i, 0, t⟩ HC.out hq).mono ?_; rintro e w3 ⟨rfl, h3⟩
         obtain ⟨g, hg⟩ : ∃ g, g = signR q (s.k, textR ⟨0, i, 0, t⟩) := ⟨_, rfl⟩
         rw [← hg]
         have HG := Lib.hid hg
         have hR := h3.turn.boxed
         have d0 : w3.cell? ⟨w.heap.size, 0, none⟩ = some (.int .i64 0) := cellOf hR rfl
         have d1 : w3.cell? ⟨w.heap.size, 1, none⟩ = some (.string ⟨#[]⟩) := cellOf hR rfl
         have d2 : w3.cell? ⟨w.heap.size, 2, none⟩ = some (.int .i64 0) := cellOf hR rfl
         have e0 := frozenOf hR 0
         have e1 := frozenOf hR 1
         have e2 := frozenOf hR 2
         have H3 := Lib.hid h3
         unfold sgV
         clear hg hR h3))
    obtain ⟨hR, hF⟩ := sg_end H3.out (.int .i64 g.1) (.string (S g.2.1)) (.int .i64 g.2.2)
    generalize (((w3.setCell ⟨w.heap.size, 0, none⟩ (.int .i64 g.1)).setCell ⟨w.heap.size, 1, none⟩ (.string (S g.2.1))).setCell ⟨w.heap.size, 2, none⟩ (.int .i64 g.2.2)) = w4 at *
    have k0 : w4.cell? ⟨w.heap.size, 0, none⟩ = some (.int .i64 g.1) := cellOf hR rfl
    have k1 : w4.cell? ⟨w.heap.size, 1, none⟩ = some (.string (S g.2.1)) := cellOf hR rfl
    have k2 : w4.cell? ⟨w.heap.size, 2, none⟩ = some (.int .i64 g.2.2) := cellOf hR rfl
    refine bodyPost_ret (v := .tuple #[sgV g, .int .i64 0]) (by simp [results, Tryd.results21, go_sem, k0, k1, k2]; rfl) rfl ⟨by rw [HG.out], ?_⟩
    exact hF
/-! ### Absent -/
/-- Whether one of the first n entries has the key. -/
noncomputable def abB (s : BS) (k : Txt) (n : Int) : Bool := match pm 0 (ks s.es) k with | some i => decide ((i : Int) < n) | none => false
noncomputable def abE (s : BS) (k : Txt) (n : Int) : Int := if n < 0 ∨ (s.es.length : Int) < n ∨ 20000 < k.length then 1 else if abB s k n then 5 else 0
noncomputable def abO (s : BS) (k : Txt) (n : Int) : Option Sd := if abE s k n = 0 then some (s.k, textR ⟨2, n, 0, k⟩) else none
theorem ab_arg {s : BS} {k : Txt} {n : Int} (h : n < 0 ∨ (s.es.length : Int) < n ∨ 20000 < k.length) : abE s k n = 1 ∧ abO s k n = none := by
  have h1 : abE s k n = 1 := by unfold abE; rw [if_pos h]
  exact ⟨h1, by unfold abO; rw [h1, if_neg (by decide)]⟩
theorem ab_there {s : BS} {k : Txt} {n : Int} (h : ¬ (n < 0 ∨ (s.es.length : Int) < n ∨ 20000 < k.length)) {i : Nat} (hp : pm 0 (ks s.es) k = some i) (hi : (i : Int) < n) : abE s k n = 5 ∧ abO s k n = none := by
  have hb : abB s k n = true := by unfold abB; rw [hp]; exact decide_eq_true hi
  have h1 : abE s k n = 5 := by unfold abE; rw [if_neg h, if_pos hb]
  exact ⟨h1, by unfold abO; rw [h1, if_neg (by decide)]⟩
theorem ab_none {s : BS} {k : Txt} {n : Int} (h : ¬ (n < 0 ∨ (s.es.length : Int) < n ∨ 20000 < k.length)) (hp : pm 0 (ks s.es) k = none) : abE s k n = 0 ∧ abO s k n = some (s.k, textR ⟨2, n, 0, k⟩) := by
  have hb : ¬ abB s k n = true := by unfold abB; rw [hp]; simp
  have h1 : abE s k n = 0 := by unfold abE; rw [if_neg h, if_neg hb]
  exact ⟨h1, by unfold abO; rw [h1, if_pos rfl]⟩
theorem ab_later {s : BS} {k : Txt} {n : Int} (h : ¬ (n < 0 ∨ (s.es.length : Int) < n ∨ 20000 < k.length)) {i : Nat} (hp : pm 0 (ks s.es) k = some i) (hi : ¬ (i : Int) < n) : abE s k n = 0 ∧ abO s k n = some (s.k, textR ⟨2, n, 0, k⟩) := by
  have hb : ¬ abB s k n = true := by unfold abB; rw [hp]; simpa using hi
  have h1 : abE s k n = 0 := by unfold abE; rw [if_neg h, if_neg hb]
  exact ⟨h1, by unfold abO; rw [h1, if_pos rfl]⟩
set_option maxHeartbeats 2000000 in
set_option maxRecDepth 100000 in
theorem babsent_arg {W w : World} {B R : Nat} {s : BS} {q : List Sd} {U : Thing} (h : Has W w ((BookT B R s q).sep U)) (k : Txt) (n : Int) (hx : n < 0 ∨ (s.es.length : Int) < n ∨ 20000 < k.length) :
    Calls Tryd.prog 23 #[.pointer (some ⟨B, 0, none⟩), .string (S k), .int .i64 n] w fun e w' => e = .returned (.tuple #[sgV (0, [], 0), .int .i64 1]) ∧ Has W w' ((BookT B R s q).sep U) := by
  have HS := Lib.hid h.sgBox
  obtain ⟨M, ev, m, hb⟩ := HS.out.bopen
  have c2 : (w.alloc (.cells #[.int .i64 0, .string ⟨#[]⟩, .int .i64 0] 37)).cell? ⟨B, 2, none⟩ = some ev := cellOf hb.heap rfl
  have c3 : (w.alloc (.cells #[.int .i64 0, .string ⟨#[]⟩, .int .i64 0] 37)).cell? ⟨B, 3, none⟩ = some (.map (some M)) := cellOf hb.heap rfl
  obtain ⟨a, c, rfl⟩ := row_form hb.row
  clear h hb
  by_cases h0 : n < 0
  · clear hx
    go_enter Tryd.func23, Tryd.ntmps23
    go_wp2_with fail
    refine bodyPost_ret (v := .tuple #[sgV (0, [], 0), .int .i64 1]) (by simp [results, Tryd.results23, go_sem]; rfl) rfl ⟨rfl, ?_⟩
    exact HS.out.turn.right
  · by_cases h1 : (s.es.length : Int) < n
    · clear hx
      go_enter Tryd.func23, Tryd.ntmps23
      go_wp2_with fail
      refine bodyPost_ret (v := .tuple #[sgV (0, [], 0), .int .i64 1]) (by simp [results, Tryd.results23, go_sem]; rfl) rfl ⟨rfl, ?_⟩
      exact HS.out.turn.right
    · have h2 : (20000 : Int) < (k.length : Int) := by omega
      clear hx
      go_enter Tryd.func23, Tryd.ntmps23
      go_wp2_with fail
      refine bodyPost_ret (v := .tuple #[sgV (0, [], 0), .int .i64 1]) (by simp [results, Tryd.results23, go_sem]; rfl) rfl ⟨rfl, ?_⟩
      exact HS.out.turn.right
set_option maxHeartbeats 2000000 in
set_option maxRecDepth 100000 in
theorem babsent_there {W w : World} {B R : Nat} {s : BS} {q : List Sd} {U : Thing} (h : Has W w ((BookT B R s q).sep U)) (k : Txt) (n : Int) (h0 : 0 ≤ n) (h1 : n ≤ s.es.length) (hk : k.length ≤ 20000) (i : Nat) (hp : pm 0 (ks s.es) k = some i) (hi : (i : Int) < n) :
    Calls Tryd.prog 23 #[.pointer (some ⟨B, 0, none⟩), .string (S k), .int .i64 n] w fun e w' => e = .returned (.tuple #[sgV (0, [], 0), .int .i64 5]) ∧ Has W w' ((BookT B R s q).sep U) := by
  have HS := Lib.hid h.sgBox
  obtain ⟨M, ev, m, hb⟩ := HS.out.bopen
  have c2 : (w.alloc (.cells #[.int .i64 0, .string ⟨#[]⟩, .int .i64 0] 37)).cell? ⟨B, 2, none⟩ = some ev := cellOf hb.heap rfl
  have c3 : (w.alloc (.cells #[.int .i64 0, .string ⟨#[]⟩, .int .i64 0] 37)).cell? ⟨B, 3, none⟩ = some (.map (some M)) := cellOf hb.heap rfl
  obtain ⟨a, c, rfl⟩ := row_form hb.row
  have hkm : k.length ≤ maxLen := Nat.le_trans hk (by decide)
  have hlk := lookK_some (hb.map) hkm hp
  have h0' : ¬ (n < 0) := by omega
  have h1' : ¬ ((s.es.length : Int) < n) := by omega
  have h2' : ¬ ((20000 : Int) < (k.length : Int)) := by omega
  clear h hb hp hkm h0 h1 hk
  go_enter Tryd.func23, Tryd.ntmps23
  go_wp2_with fail
  refine bodyPost_ret (v := .tuple #[sgV (0, [], 0), .int .i64 5]) (by simp [results, Tryd.results23, go_sem]; rfl) rfl ⟨rfl, ?_⟩
  exact HS.out.turn.right
set_option maxHeartbeats 2000000 in
set_option maxRecDepth 100000 in
theorem babsent_none {W w : World} {B R : Nat} {s : BS} {q : List Sd} {U : Thing} (h : Has W w ((BookT B R s q).sep U)) (k : Txt) (n : Int) (h0 : 0 ≤ n) (h1 : n ≤ s.es.length) (hk : k.length ≤ 20000) (hT : Tab W) (hs : s.ok) (hq : q.length ≤ 1000000) (hp : k ∉ ks s.es) :
    Calls Tryd.prog 23 #[.pointer (some ⟨B, 0, none⟩), .string (S k), .int .i64 n] w fun e w' => e = .returned (.tuple #[sgV (signR q (s.k, textR ⟨2, n, 0, k⟩)), .int .i64 0]) ∧ Has W w' ((BookT B R s (signL q (s.k, textR ⟨2, n, 0, k⟩))).sep U) := by
  have HS := Lib.hid h.sgBox
  obtain ⟨M, ev, m, hb⟩ := HS.out.bopen
  have c2 : (w.alloc (.cells #[.int .i64 0, .string ⟨#[]⟩, .int .i64 0] 37)).cell? ⟨B, 2, none⟩ = some ev := cellOf hb.heap rfl
  have c3 : (w.alloc (.cells #[.int .i64 0, .string ⟨#[]⟩, .int .i64 0] 37)).cell? ⟨B, 3, none⟩ = some (.map (some M)) := cellOf hb.heap rfl
  obtain ⟨a, c, rfl⟩ := row_form hb.row
  have hkm : k.length ≤ maxLen := Nat.le_trans hk (by decide)
  have hlk := lookK_none (hb.map) hkm hp
  have h0' : ¬ (n < 0) := by omega
  have h1' : ¬ ((s.es.length : Int) < n) := by omega
  have h2' : ¬ ((20000 : Int) < (k.length : Int)) := by omega
  have hs1 := hs.1
  have HC := Lib.hid (fits3 2 (by decide) n ⟨by omega, by omega⟩ 0 (by decide) k hk)
  have HT := Lib.hid hT
  clear hT
  clear hs hs1 h hb hp hkm h0 h1 hk
  go_enter Tryd.func23, Tryd.ntmps23
  go_wp2_with (first
    | (go_at_call 40; refine (bsign HS.out HT.out ⟨2, n, 0, k⟩ HC.out hq).mono ?_; rintro e w3 ⟨rfl, h3⟩
       obtain ⟨g, hg⟩ : ∃ g, g = signR q (s.k, textR ⟨2, n, 0, k⟩) := ⟨_, rfl⟩
       rw [← hg]
       have HG := Lib.hid hg
       have hR := h3.turn.boxed
       have d0 : w3.cell? ⟨w.heap.size, 0, none⟩ = some (.int .i64 0) := cellOf hR rfl
       have d1 : w3.cell? ⟨w.heap.size, 1, none⟩ = some (.string ⟨#[]⟩) := cellOf hR rfl
       have d2 : w3.cell? ⟨w.heap.size, 2, none⟩ = some (.int .i64 0) := cellOf hR rfl
       have e0 := frozenOf hR 0
       have e1 := frozenOf hR 1
       have e2 := frozenOf hR 2
       have H3 := Lib.hid h3
       unfold sgV
       clear hg hR h3))
  obtain ⟨hR, hF⟩ := sg_end H3.out (.int .i64 g.1) (.string (S g.2.1)) (.int .i64 g.2.2)
  generalize (((w3.setCell ⟨w.heap.size, 0, none⟩ (.int .i64 g.1)).setCell ⟨w.heap.size, 1, none⟩ (.string (S g.2.1))).setCell ⟨w.heap.size, 2, none⟩ (.int .i64 g.2.2)) = w4 at *
  have k0 : w4.cell? ⟨w.heap.size, 0, none⟩ = some (.int .i64 g.1) := cellOf hR rfl
  have k1 : w4.cell? ⟨w.heap.size, 1, none⟩ = some (.string (S g.2.1)) := cellOf hR rfl
  have k2 : w4.cell? ⟨w.heap.size, 2, none⟩ = some (.int .i64 g.2.2) := cellOf hR rfl
  refine bodyPost_ret (v := .tuple #[sgV g, .int .i64 0]) (by simp [results, Tryd.results23, go_sem, k0, k1, k2]; rfl) rfl ⟨by rw [HG.out], ?_⟩
  exact hF
set_option maxHeartbeats 2000000 in
set_option maxRecDepth 100000 in
theorem babsent_later {W w : World} {B R : Nat} {s : BS} {q : List Sd} {U : Thing} (h : Has W w ((BookT B R s q).sep U)) (k : Txt) (n : Int) (h0 : 0 ≤ n) (h1 : n ≤ s.es.length) (hk : k.length ≤ 20000) (hT : Tab W) (hs : s.ok) (hq : q.length ≤ 1000000) (i : Nat) (hp : pm 0 (ks s.es) k = some i) (hi : ¬ (i : Int) < n) :
    Calls Tryd.prog 23 #[.pointer (some ⟨B, 0, none⟩), .string (S k), .int .i64 n] w fun e w' => e = .returned (.tuple #[sgV (signR q (s.k, textR ⟨2, n, 0, k⟩)), .int .i64 0]) ∧ Has W w' ((BookT B R s (signL q (s.k, textR ⟨2, n, 0, k⟩))).sep U) := by
  have HS := Lib.hid h.sgBox
  obtain ⟨M, ev, m, hb⟩ := HS.out.bopen
  have c2 : (w.alloc (.cells #[.int .i64 0, .string ⟨#[]⟩, .int .i64 0] 37)).cell? ⟨B, 2, none⟩ = some ev := cellOf hb.heap rfl
  have c3 : (w.alloc (.cells #[.int .i64 0, .string ⟨#[]⟩, .int .i64 0] 37)).cell? ⟨B, 3, none⟩ = some (.map (some M)) := cellOf hb.heap rfl
  obtain ⟨a, c, rfl⟩ := row_form hb.row
  have hkm : k.length ≤ maxLen := Nat.le_trans hk (by decide)
  have hlk := lookK_some (hb.map) hkm hp
  have h0' : ¬ (n < 0) := by omega
  have h1' : ¬ ((s.es.length : Int) < n) := by omega
  have h2' : ¬ ((20000 : Int) < (k.length : Int)) := by omega
  have hs1 := hs.1
  have HC := Lib.hid (fits3 2 (by decide) n ⟨by omega, by omega⟩ 0 (by decide) k hk)
  have HT := Lib.hid hT
  clear hT
  clear hs hs1 h hb hp hkm h0 h1 hk
  go_enter Tryd.func23, Tryd.ntmps23
  go_wp2_with (first
    | (go_at_call 40; refine (bsign HS.out HT.out ⟨2, n, 0, k⟩ HC.out hq).mono ?_; rintro e w3 ⟨rfl, h3⟩
       obtain ⟨g, hg⟩ : ∃ g, g = signR q (s.k, textR ⟨2, n, 0, k⟩) := ⟨_, rfl⟩
       rw [← hg]
       have HG := Lib.hid hg
       have hR := h3.turn.boxed
       have d0 : w3.cell? ⟨w.heap.size, 0, none⟩ = some (.int .i64 0) := cellOf hR rfl
       have d1 : w3.cell? ⟨w.heap.size, 1, none⟩ = some (.string ⟨#[]⟩) := cellOf hR rfl
       have d2 : w3.cell? ⟨w.heap.size, 2, none⟩ = some (.int .i64 0) := cellOf hR rfl
       have e0 := frozenOf hR 0
       have e1 := frozenOf hR 1
       have e2 := frozenOf hR 2
       have H3 := Lib.hid h3
       unfold sgV
       clear hg hR h3))
  obtain ⟨hR, hF⟩ := sg_end H3.out (.int .i64 g.1) (.string (S g.2.1)) (.int .i64 g.2.2)
  generalize (((w3.setCell ⟨w.heap.size, 0, none⟩ (.int .i64 g.1)).setCell ⟨w.heap.size, 1, none⟩ (.string (S g.2.1))).setCell ⟨w.heap.size, 2, none⟩ (.int .i64 g.2.2)) = w4 at *
  have k0 : w4.cell? ⟨w.heap.size, 0, none⟩ = some (.int .i64 g.1) := cellOf hR rfl
  have k1 : w4.cell? ⟨w.heap.size, 1, none⟩ = some (.string (S g.2.1)) := cellOf hR rfl
  have k2 : w4.cell? ⟨w.heap.size, 2, none⟩ = some (.int .i64 g.2.2) := cellOf hR rfl
  refine bodyPost_ret (v := .tuple #[sgV g, .int .i64 0]) (by simp [results, Tryd.results23, go_sem, k0, k1, k2]; rfl) rfl ⟨by rw [HG.out], ?_⟩
  exact hF
theorem babsent {W w : World} {B R : Nat} {s : BS} {q : List Sd} {U : Thing} (h : Has W w ((BookT B R s q).sep U)) (hT : Tab W) (k : Txt) (n : Int) (hs : s.ok) (hq : q.length ≤ 1000000) :
    Calls Tryd.prog 23 #[.pointer (some ⟨B, 0, none⟩), .string (S k), .int .i64 n] w fun e w' => e = .returned (.tuple #[sgV (sgO q (abO s k n)), .int .i64 (abE s k n)]) ∧ Has W w' ((BookT B R s (qO q (abO s k n))).sep U) := by
  by_cases hx : n < 0 ∨ (s.es.length : Int) < n ∨ 20000 < k.length
  · obtain ⟨h1, h2⟩ := ab_arg hx
    rw [h1, h2]
    exact babsent_arg h k n hx
  · cases hp : pm 0 (ks s.es) k with
    | none =>
      obtain ⟨h1, h2⟩ := ab_none hx hp
      rw [h1, h2]
      exact babsent_none h k n (by omega) (by omega) (by omega) hT hs hq (pm_none.1 hp)
    | some i =>
      by_cases hi : (i : Int) < n
      · obtain ⟨h1, h2⟩ := ab_there hx hp hi
        rw [h1, h2]
        exact babsent_there h k n (by omega) (by omega) (by omega) i hp hi
      · obtain ⟨h1, h2⟩ := ab_later hx hp hi
        rw [h1, h2]
        exact babsent_later h k n (by omega) (by omega) (by omega) hT hs hq i hp hi
end Go.Proofs.YthppefkamklakaaDoor
